/-
  The reference by values; the walks of the laws NatCmps, NatMuls.
  Lists of bytes: elements, pieces; rows that are filled in place, one after another; xor of bytes. No condition.
  The reference's Size, Bytes.
  Slices of bytes that read as digits to the base 256; what each round of reading them leaves. No condition.
-/
import Derived.Test.YticggkllfojgkaaDoorM10
import Derived.Test.YticggkllfojgkaaDoorM0
import Derived.Test.YticggkllfojgkaaDoorM2
namespace Go.Proofs.YticggkllfojgkaaDoor
open Go Go.RowKit
set_option maxRecDepth 4000

theorem len_iff {B : Nat} (hB : 2 ≤ B) (v k : Nat) : (dgs B v).length ≤ k ↔ v < B ^ k := by
  have hc := cn_dgs hB v
  have hv := vl_dgs hB v
  constructor
  · intro h
    have h1 := vl_lt (by omega) hc.d
    rw [hv] at h1
    exact Nat.lt_of_lt_of_le h1 (Nat.pow_le_pow_right (by omega) h)
  · intro h
    rcases Nat.lt_or_ge k (dgs B v).length with h2 | h2
    · have h1 := cn_lo (by omega) hc (fun e => by rw [e] at h2; simp at h2)
      rw [hv] at h1
      have h3 := Nat.pow_le_pow_right (n := B) (by omega) (show k ≤ (dgs B v).length - 1 by omega)
      omega
    · exact h2
theorem bb_pow (k : Nat) : BB ^ k = 65536 ^ (2 * k) := by rw [Nat.pow_mul]
theorem len16 {v k : Nat} (h : v < BB ^ k) : (dgs 65536 v).length ≤ 2 * k := (len_iff (by decide) v (2 * k)).2 (by rw [← bb_pow]; exact h)
theorem may_iff (v : Nat) : (dgs 65536 v).length ≤ 128 ↔ ¬ lng v := by
  have h1 := len_iff (B := 65536) (by decide) v (2 * 64)
  rw [← bb_pow] at h1
  rw [show (128 : Nat) = 2 * 64 from rfl, h1, ← len_iff (by decide)]
  unfold lng nl
  omega
/-- a slice of ints that reads as a number -/
structure Ni (w : World) (A : Option Addr) (n c v : Nat) : Prop where
  r : Rd vI w A n c (dgs 65536 v)
  n : n ≤ 1000000
theorem Ni.ext {w w' : World} {A : Option Addr} {n c v : Nat} (h : Ni w A n c v) (hx : Ext w w') : Ni w' A n c v := ⟨h.r.ext hx, h.n⟩
theorem Ni.of {w : World} {A : Option Addr} {n c v k : Nat} (h : Rd vI w A n c (dgs 65536 v)) (hv : v < BB ^ k) (hk : k ≤ 400) : Ni w A n c v := ⟨h, by have := len16 hv; have := h.len; omega⟩
section
variable {w : World} {A B : Option Addr} {n c m d va vb : Nat}
theorem OfV (ha : Nv w A n c va) : Calls Tryd.prog 22 #[.slice A n c] w (FreshN w va) := by
  obtain ⟨a, ha, rfl⟩ := ha
  exact Of_any ha.r ha.d (by have := ha.n; omega)
theorem RCmpV (ha : Ni w A n c va) (hb : Ni w B m d vb) (z : Int) (hz : cmpI va vb = z) : Calls Tryd.prog 21 #[.slice A n c, .slice B m d] w fun e w' => e = .returned (.int .i64 z) ∧ Ext w w' := by
  have h := cmp_any ha.r hb.r (cn_dgs (by decide) va) (cn_dgs (by decide) vb) (by have := ha.n; omega) (by have := hb.n; omega)
  rw [vl_dgs (B := 65536) (by decide), vl_dgs (B := 65536) (by decide), hz] at h
  exact h
theorem RMulV (ha : Ni w A n c va) (hb : Ni w B m d vb) : Calls Tryd.prog 51 #[.slice A n c, .slice B m d] w (FreshN w (va * vb)) := by
  have h := mul_any ha.r hb.r (cn_dgs (by decide) va).d (cn_dgs (by decide) vb).d (by have := ha.n; omega) (by have := hb.n; omega)
  rwa [vl_dgs (B := 65536) (by decide), vl_dgs (B := 65536) (by decide)] at h
theorem RSubV (ha : Ni w A n c va) (hb : Ni w B m d vb) (hle : vb ≤ va) : Calls Tryd.prog 94 #[.slice A n c, .slice B m d] w (FreshN w (va - vb)) := by
  have hmn : m ≤ n := by
    have h1 := ha.r.len
    have h2 := hb.r.len
    rcases Nat.lt_or_ge n m with h | h
    · have h3 := cn_len_lt (B := 65536) (by decide) (cn_dgs (by decide) va) (cn_dgs (by decide) vb) (by omega)
      rw [vl_dgs (by decide), vl_dgs (by decide)] at h3
      omega
    · exact h
  have h := sub_any ha.r hb.r (cn_dgs (by decide) va).d (cn_dgs (by decide) vb).d (by have := ha.n; omega) hmn (by rw [vl_dgs (by decide), vl_dgs (by decide)]; exact hle)
  rwa [vl_dgs (B := 65536) (by decide), vl_dgs (B := 65536) (by decide)] at h
end
theorem light_cases (n m : Nat) : (n ≤ 100 ∧ m ≤ 100) ∨ 100 < n ∨ (n ≤ 100 ∧ 100 < m) := by omega
end Go.Proofs.YticggkllfojgkaaDoor
namespace Go.Proofs.YticggkllfojgkaaDoor
open Go
set_option maxRecDepth 4000

theorem ofInt8 (x : BitVec 8) : BitVec.ofInt 8 (ub x) = x := by
  unfold ub; rw [BitVec.ofInt_natCast]; simp
theorem wrap8_ub (x : BitVec 8) : IntKind.u8.wrap (x.toNat : Int) = ub x := by
  have := x.isLt
  unfold ub
  rw [IntKind.wrap_u8]; omega
@[go_sem] theorem b_xor8 (x y : BitVec 8) : bits .xor .u8 (ub x) (ub y) = ub (x ^^^ y) := by
  show IntKind.u8.wrap ((BitVec.ofInt 8 (ub x) ^^^ BitVec.ofInt 8 (ub y)).toNat : Int) = _
  rw [ofInt8, ofInt8, wrap8_ub]

theorem gbv (l : List (BitVec 8)) (i : Nat) (h : i < l.length) : gb l i = l[i] := by simp [gb, h]
theorem gb_out (l : List (BitVec 8)) (i : Nat) (h : l.length ≤ i) : gb l i = 0 := by simp [gb, h]
theorem ext_gb (x y : List (BitVec 8)) (h : x.length = y.length) (h2 : ∀ i, i < x.length → gb x i = gb y i) : x = y := by
  apply List.ext_getElem h
  intro i h1 h3
  rw [← gbv x i h1, ← gbv y i h3]
  exact h2 i h1
theorem gb_app (x y : List (BitVec 8)) (i : Nat) : gb (x ++ y) i = if i < x.length then gb x i else gb y (i - x.length) := by
  unfold gb
  rw [List.getD_eq_getElem?_getD, List.getD_eq_getElem?_getD, List.getD_eq_getElem?_getD, List.getElem?_append]
  split <;> rfl
theorem gb_set (l : List (BitVec 8)) (j i : Nat) (x : BitVec 8) (hj : j < l.length) : gb (l.set j x) i = if i = j then x else gb l i := by
  unfold gb
  rw [List.getD_eq_getElem?_getD, List.getD_eq_getElem?_getD, List.getElem?_set]
  by_cases h : i = j
  · subst h; simp [hj]
  · rw [if_neg h, if_neg (fun e => h e.symm)]
theorem gb_map_range (f : Nat → BitVec 8) (n i : Nat) (h : i < n) : gb ((List.range n).map f) i = f i := by
  simp [gb, h]
theorem gb_zb (n i : Nat) : gb (zb n) i = 0 := by
  unfold gb zb
  rw [List.getD_eq_getElem?_getD, List.getElem?_replicate]
  split <;> rfl
theorem gb_drop' (l : List (BitVec 8)) (k j : Nat) : gb (l.drop k) j = gb l (k + j) := by
  simp [gb, List.getElem?_drop]
theorem gb_take' (l : List (BitVec 8)) (k j : Nat) : gb (l.take k) j = if j < k then gb l j else 0 := by
  unfold gb
  rw [List.getD_eq_getElem?_getD, List.getD_eq_getElem?_getD, List.getElem?_take]
  split <;> rfl

/-- a row that is filled in place: the first k elements are f's -/
def li (n : Nat) (f : Nat → BitVec 8) : List (BitVec 8) := (List.range n).map f
theorem li_len (n : Nat) (f : Nat → BitVec 8) : (li n f).length = n := by simp [li]
theorem li_gb (n : Nat) (f : Nat → BitVec 8) (j : Nat) (h : j < n) : gb (li n f) j = f j := gb_map_range f n j h
theorem li_congr {n : Nat} {f g : Nat → BitVec 8} (h : ∀ j, j < n → f j = g j) : li n f = li n g := List.map_congr_left fun j hj => h j (by simpa using hj)
theorem li_succ (n : Nat) (f : Nat → BitVec 8) : li (n + 1) f = li n f ++ [f n] := by unfold li; rw [List.range_succ, List.map_append]; rfl
theorem li_self (l : List (BitVec 8)) (n : Nat) (h : l.length = n) : li n (gb l) = l := by
  apply ext_gb
  · rw [li_len, h]
  · intro i hi
    rw [li_gb _ _ _ (by rwa [li_len] at hi)]
def fl (n : Nat) (f : Nat → BitVec 8) (z : List (BitVec 8)) (k : Nat) : List (BitVec 8) := li n fun j => if j < k then f j else gb z j
theorem fl_len (n : Nat) (f : Nat → BitVec 8) (z : List (BitVec 8)) (k : Nat) : (fl n f z k).length = n := li_len _ _
theorem fl_gb (n : Nat) (f : Nat → BitVec 8) (z : List (BitVec 8)) (k j : Nat) (h : j < n) : gb (fl n f z k) j = if j < k then f j else gb z j := li_gb _ _ _ h
theorem fl_zero (n : Nat) (f : Nat → BitVec 8) (z : List (BitVec 8)) (h : z.length = n) : fl n f z 0 = z := by
  have e : fl n f z 0 = li n (gb z) := li_congr fun j _ => by rw [if_neg (Nat.not_lt_zero j)]
  rw [e, li_self z n h]
theorem fl_end (n : Nat) (f : Nat → BitVec 8) (z : List (BitVec 8)) : fl n f z n = li n f := li_congr fun j hj => by rw [if_pos hj]
theorem fl_succ (n : Nat) (f : Nat → BitVec 8) (z : List (BitVec 8)) (k : Nat) (h : k < n) : (fl n f z k).set k (f k) = fl n f z (k + 1) := by
  apply ext_gb
  · rw [List.length_set, fl_len, fl_len]
  · intro i hi
    rw [List.length_set, fl_len] at hi
    rw [gb_set _ _ _ _ (by rwa [fl_len]), fl_gb _ _ _ _ _ hi, fl_gb _ _ _ _ _ hi]
    by_cases h1 : i = k
    · subst h1; simp
    · rw [if_neg h1]
      by_cases h2 : i < k
      · rw [if_pos h2, if_pos (by omega)]
      · rw [if_neg h2, if_neg (by omega)]
/-- each byte, by its number -/
theorem all8 {p : BitVec 8 → Prop} (h : ∀ n, n < 256 → p (BitVec.ofNat 8 n)) (x : BitVec 8) : p x := by
  have := h x.toNat x.isLt
  rwa [BitVec.ofNat_toNat, BitVec.setWidth_eq] at this
end Go.Proofs.YticggkllfojgkaaDoor
namespace Go.Proofs.YticggkllfojgkaaDoor
open Go Go.RowKit
set_option maxRecDepth 4000

/-- how many bytes a number has -/
def sz (l : List Nat) : Nat := if 0 < l.length ∧ dg l (l.length - 1) < 256 then 2 * l.length - 1 else 2 * l.length
set_option maxHeartbeats 1000000 in
theorem Size_any {l : List Nat} {A : Option Addr} {n c : Nat} {w : World} (h : Rd vI w A n c l) (hn : n ≤ 1000000000000) :
    Calls Tryd.prog 30 #[.slice A n c] w fun e w' => e = .returned (.int .i64 (sz l : Int)) ∧ w' = w := by
  have hl := h.len
  by_cases h0 : n = 0
  · subst h0
    have e : sz l = 0 := by rw [sz, hl]; simp
    rw [e]
    clear h
    go_enter Tryd.func30, Tryd.ntmps30
    go_wp2_with fail
    go_ret
    exact ⟨rfl, rfl⟩
  · obtain ⟨g, o, rfl⟩ := h.some_ (by omega)
    obtain ⟨k, hk⟩ : ∃ k, n = k + 1 := ⟨n - 1, by omega⟩
    have k1 := h.dig k (by omega)
    unfold vI at k1
    obtain ⟨N, hN⟩ : ∃ N, N = 2 * n := ⟨_, rfl⟩
    have e1 : (n : Int) - 1 = (k : Int) := by omega
    have e2 : IntKind.i64.wrap (2 * (n : Int)) = (N : Int) := by rw [IntKind.wrap_i64]; omega
    have e3 : 2 * (n : Int) = (N : Int) := by omega
    have b0 : (k : Int) < (n : Int) := by omega
    have b1 : decide ((0 : Int) < (N : Int)) = true := decide_eq_true (by omega)
    have b2 : 0 < N := by omega
    have b3 : (N : Int) < 4611686018427387904 := by omega
    have hk1 : n - 1 = k := by omega
    by_cases hq : dg l k < 256
    · have e : (sz l : Int) = (N : Int) - 1 := by rw [sz, hl, hk1, if_pos ⟨by omega, hq⟩]; omega
      rw [e]
      have q1 : ((dg l k : Nat) : Int) < 256 := by omega
      clear h e hq h0 hk hk1 hl hN hn
      generalize dg l k = x at *
      go_enter Tryd.func30, Tryd.ntmps30
      go_wp2_with fail
      go_ret
      exact ⟨rfl, rfl⟩
    · have e : (sz l : Int) = (N : Int) := by rw [sz, hl, hk1, if_neg (fun h => hq h.2)]; omega
      rw [e]
      have q1 : decide (((dg l k : Nat) : Int) < 256) = false := decide_eq_false (by omega)
      clear h e hq h0 hk hk1 hl hN hn
      generalize dg l k = x at *
      go_enter Tryd.func30, Tryd.ntmps30
      go_wp2_with fail
      go_ret
      exact ⟨rfl, rfl⟩
end Go.Proofs.YticggkllfojgkaaDoor
namespace Go.Proofs.YticggkllfojgkaaDoor
open Go Go.RowKit
set_option maxRecDepth 4000

/-- a digit as a byte -/
def vB (d : Nat) : Value := .int .u8 (d : Int)
theorem Rd.of_sl {w : World} {A : Option Addr} {n c : Nat} {l : List (BitVec 8)} (h : Sl w A n c l) : Rd vB w A n c (l.map BitVec.toNat) := by
  obtain ⟨h1, h2, h3, h4⟩ := h
  refine ⟨by rw [List.length_map, h1], h2, h3, fun hn => ?_⟩
  obtain ⟨g, o, e, hc⟩ := h4 hn
  refine ⟨g, o, e, fun j x hj => ?_⟩
  rw [List.getElem?_map] at hj
  have hjl : j < l.length := by
    rcases Nat.lt_or_ge j l.length with h | h
    · exact h
    · rw [List.getElem?_eq_none h] at hj; cases hj
  rw [hc j (by omega)]
  rw [List.getElem?_eq_getElem hjl] at hj
  cases hj
  simp [vB, ub, gb, hjl]
theorem Dg.of_bytes (l : List (BitVec 8)) : Dg 256 (l.map BitVec.toNat) := fun d hd => by
  obtain ⟨x, _, rfl⟩ := List.mem_map.1 hd
  exact x.isLt
theorem Rd.drop {α : Type} {e : α → Value} {w : World} {A : Option Addr} {n c : Nat} {l : List α} (h : Rd e w A n c l) (k : Nat) (hk : k ≤ n) : Rd e w (if c = k then A else A.map (·.add k)) (n - k) (c - k) (l.drop k) := by
  have hl := h.len
  have hc := h.cap
  refine ⟨by rw [List.length_drop, hl], by omega, ?_, fun hn => ?_⟩
  · intro ea
    have hA : A = none := by
      by_cases hck : c = k
      · rwa [if_pos hck] at ea
      · rw [if_neg hck] at ea; cases A with
        | none => rfl
        | some a => cases ea
    have := h.nul hA
    omega
  · obtain ⟨g, o, rfl, hc⟩ := h.at_ (by omega)
    have hck : ¬ c = k := by omega
    refine ⟨g, o + k, ?_, fun j x hj => ?_⟩
    · rw [if_neg hck]
      simp only [Option.map_some, Option.some.injEq]
      unfold Addr.add
      split <;> simp_all
    · rw [List.getElem?_drop] at hj
      rw [Nat.add_assoc]
      exact hc (k + j) x hj
/-- a digit from the end -/
theorem dg_rev (l : List Nat) (i : Nat) (h : i < l.length) : dg l.reverse i = dg l (l.length - 1 - i) := by
  unfold dg
  rw [List.getD_eq_getElem?_getD, List.getD_eq_getElem?_getD, List.getElem?_reverse h]
theorem Dg.rev {B : Nat} {l : List Nat} (h : Dg B l) : Dg B l.reverse := fun d hd => h d (List.mem_reverse.1 hd)
/-- noughts ahead say nothing -/
theorem vl_rev_drop (B : Nat) (l : List Nat) : vl B (l.dropWhile (· == 0)).reverse = vl B l.reverse := by
  induction l with
  | nil => rfl
  | cons x l ih =>
    rw [List.dropWhile_cons]
    split
    · rename_i h
      rw [ih, List.reverse_cons, vl_snoc, eq_of_beq h, Nat.mul_zero, Nat.add_zero]
    · rfl
/-- after i bytes -/
structure RdS (r : List Nat) (K i : Nat) (L : List Nat) : Prop where
  len : L.length = K
  d : Dg BB L
  v : vl BB L = vl 256 (r.take i)
theorem RdS.start (r : List Nat) (K : Nat) : RdS r K 0 (List.replicate K 0) :=
  ⟨by simp, fun d hd => by rw [List.eq_of_mem_replicate hd]; decide, by rw [vl_zeros]; rfl⟩
theorem p256 (q s : Nat) : BB ^ q * 2 ^ (8 * s) = 256 ^ (4 * q + s) := by
  rw [Nat.pow_add, Nat.pow_mul, Nat.pow_mul]
theorem RdS.low {r L : List Nat} {K i q s : Nat} (hr : Dg 256 r) (h : RdS r K i L) (hi : i = 4 * q + s) (hir : i ≤ r.length) (hq : q < K) : dg L q < 2 ^ (8 * s) := by
  have h1 := vl_lt (by decide) (hr.take i)
  rw [← h.v, List.length_take, Nat.min_eq_left hir, hi, ← p256] at h1
  have h2 := vl_split BB L q (by rw [h.len]; exact hq)
  rw [Nat.mul_add] at h2
  have h3 : BB ^ q * dg L q < BB ^ q * 2 ^ (8 * s) := by omega
  exact Nat.lt_of_mul_lt_mul_left h3
theorem RdS.next {r L : List Nat} {K i q s : Nat} (hr : Dg 256 r) (h : RdS r K i L) (hi : i = 4 * q + s) (hs : s < 4) (hir : i < r.length) (hq : q < K) : RdS r K (i + 1) (L.set q (dg r i * 2 ^ (8 * s) + dg L q)) := by
  have h1 := h.low hr hi (by omega) hq
  have h2 := hr.at (by decide) i
  have h5 : dg r i * 2 ^ (8 * s) + dg L q < BB := by
    have h3 : (dg r i + 1) * 2 ^ (8 * s) ≤ 256 * 2 ^ (8 * s) := Nat.mul_le_mul_right _ h2
    rw [Nat.add_mul, Nat.one_mul] at h3
    have h4 : 256 * 2 ^ (8 * s) ≤ 256 * 2 ^ (8 * 3) := Nat.mul_le_mul_left _ (Nat.pow_le_pow_right (by decide) (by omega))
    have h6 : 256 * 2 ^ (8 * 3) = BB := by decide
    omega
  refine ⟨by rw [List.length_set, h.len], h.d.set q _ h5, ?_⟩
  have h3 := vl_set BB L q (dg r i * 2 ^ (8 * s) + dg L q) (by rw [h.len]; exact hq)
  rw [Nat.mul_add, Nat.mul_comm (dg r i), ← Nat.mul_assoc, p256, ← hi] at h3
  rw [vl_take_succ, ← h.v]
  rw [Nat.mul_comm (dg r i)]
  omega
theorem RdS.done {r L : List Nat} {K : Nat} (h : RdS r K r.length L) : vl BB L = vl 256 r := by rw [h.v, List.take_length]
/-- just so many limbs -/
theorem RdS.cn {r L : List Nat} {K : Nat} (h : RdS r K r.length L) (hK : K = (r.length + 3) / 4) (ht : r.length = 0 ∨ dg r (r.length - 1) ≠ 0) (hr : Dg 256 r) : L = dgs BB (vl 256 r) := by
  have hv := h.done
  have e : L.take K = dgs BB (vl BB L) := by
    refine cut_cn (by decide) h.d K (by rw [h.len]; exact Nat.le_refl _) (fun i hi => dg_out L i (by rw [h.len]; exact hi)) ?_
    rcases ht with ht | ht
    · left; omega
    · by_cases h0 : r.length = 0
      · left; omega
      · right
        intro hz
        have h1 : vl BB L < BB ^ (K - 1) := by
          have h2 := vl_split BB L (K - 1) (by rw [h.len]; omega)
          rw [List.drop_eq_nil_of_le (by rw [h.len]; omega), hz] at h2
          simp only [vl, Nat.mul_zero, Nat.add_zero] at h2
          have h3 := vl_lt (by decide) (h.d.take (K - 1))
          rw [List.length_take, h.len, Nat.min_eq_left (by omega)] at h3
          omega
        have h4 : 256 ^ (r.length - 1) ≤ vl 256 r := by
          have h5 := vl_split 256 r (r.length - 1) (by omega)
          have h6 : 256 ^ (r.length - 1) * 1 ≤ 256 ^ (r.length - 1) * (dg r (r.length - 1) + 256 * vl 256 (r.drop (r.length - 1 + 1))) := Nat.mul_le_mul_left _ (by omega)
          omega
        have h7 : BB ^ (K - 1) ≤ 256 ^ (r.length - 1) := by
          rw [show BB = 256 ^ 4 by decide, ← Nat.pow_mul]
          exact Nat.pow_le_pow_right (by decide) (by omega)
        omega
  rw [List.take_of_length_le (by rw [h.len]; exact Nat.le_refl _), hv] at e
  exact e
/-- more than so many bytes -/
theorem long_iff {r : List Nat} (hr : Dg 256 r) (ht : r.length = 0 ∨ dg r (r.length - 1) ≠ 0) : r.length ≤ 256 ↔ vl 256 r < 256 ^ 256 := by
  constructor
  · intro h
    exact Nat.lt_of_lt_of_le (vl_lt (by decide) hr) (Nat.pow_le_pow_right (by decide) h)
  · intro h
    rcases Nat.lt_or_ge 256 r.length with h1 | h1
    · rcases ht with ht | ht
      · omega
      · have h5 := vl_split 256 r (r.length - 1) (by omega)
        have h6 : 256 ^ (r.length - 1) * 1 ≤ 256 ^ (r.length - 1) * (dg r (r.length - 1) + 256 * vl 256 (r.drop (r.length - 1 + 1))) := Nat.mul_le_mul_left _ (by omega)
        have h7 := Nat.pow_le_pow_right (n := 256) (by decide) (show 256 ≤ r.length - 1 by omega)
        omega
    · exact h1
theorem sz_iff (v : Nat) : sz (dgs 65536 v) ≤ 256 ↔ v < 256 ^ 256 := by
  have h := len_iff (B := 65536) (by decide) v 128
  rw [show (65536 : Nat) = 256 ^ 2 by decide, ← Nat.pow_mul, show 2 * 128 = 256 by decide] at h
  rw [← h, ← show (65536 : Nat) = 256 ^ 2 by decide]
  unfold sz
  split <;> omega
end Go.Proofs.YticggkllfojgkaaDoor
