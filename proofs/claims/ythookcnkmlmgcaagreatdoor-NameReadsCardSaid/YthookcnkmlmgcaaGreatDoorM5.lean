/-
  prim: within, daysOf, daysAhead, isTime; the reference's Leap, Days.
  prim: isTime; the reference's May.
  Numbers as lists of digits, the lowest first, to any base: values, shortest forms, and what sums, differences, products leave. No condition.
  Sums, differences, products, quotients, powers of numbers as digits: what each round of the known ways leaves. No condition.
-/
import Derived.Test.YthookcnkmlmgcaaGreatDoorM2
import Derived.Test.YthookcnkmlmgcaaGreatDoorM4
import Derived.Lib.Hide
import Derived.WalkKit
namespace Go.Proofs.YthookcnkmlmgcaaGreatDoor
open Go Go.RowKit
set_option maxRecDepth 4000

theorem tm_nat (y k : Nat) (_ : 0 < k) : (y : Int).tmod (k : Int) = ((y % k : Nat) : Int) := by
  rw [Int.tmod_eq_emod_of_nonneg (by omega)]
  exact (Int.natCast_emod y k).symm
theorem td_nat (y k : Nat) : (y : Int).tdiv (k : Int) = ((y / k : Nat) : Int) := by
  rw [Int.tdiv_eq_ediv_of_nonneg (by omega)]
  exact (Int.natCast_ediv y k).symm
theorem dimM_feb (y : Nat) : dimM y 2 = if leapY y = true then 29 else 28 := rfl
theorem dimM_else (y m : Nat) (h : m ≠ 2) : dimM y m = if m = 4 ∨ m = 6 ∨ m = 9 ∨ m = 11 then 30 else 31 := by unfold dimM; rw [if_neg h]
theorem modz (y k : Nat) (K : Int) (hK : (k : Int) = K) (hk : 0 < k) : ∃ A : Int, (y : Int).tmod K = A ∧ ((y % k = 0 ∧ A = 0) ∨ (y % k ≠ 0 ∧ (A == 0) = false ∧ (A != 0) = true ∧ ¬ A = 0)) := by
  subst hK
  refine ⟨_, tm_nat y k hk, ?_⟩
  by_cases h : y % k = 0
  · exact .inl ⟨h, by omega⟩
  · exact .inr ⟨h, beq_eq_false_iff_ne.2 (by omega), bne_iff_ne.2 (by omega), by omega⟩
theorem zeq (a : Nat) : ((a : Int) == 0) = decide (a = 0) := by rw [Bool.eq_iff_iff]; simp
theorem mod400 {y a c : Nat} (h4 : y % 4 = a) (h400 : y % 400 = c) (hc : c = 0) : a = 0 := by omega
end Go.Proofs.YthookcnkmlmgcaaGreatDoor
namespace Go.Proofs.YthookcnkmlmgcaaGreatDoor
open Go Go.RowKit
set_option maxRecDepth 4000

/-- six ints that are a moment, and the moment's cells -/
def tci (y mo d h mi s : Int) : Array Value := #[.int .i64 y, .int .i64 mo, .int .i64 d, .int .i64 h, .int .i64 mi, .int .i64 s]
def tcs (t : Tmt) : Array Value := tci t.y t.mo t.d t.h t.mi t.s
def MayI (y mo d h mi s : Int) : Prop := ∃ t, MayT t ∧ y = (t.y : Int) ∧ mo = (t.mo : Int) ∧ d = (t.d : Int) ∧ h = (t.h : Int) ∧ mi = (t.mi : Int) ∧ s = (t.s : Int)
/-- what is amiss first -/
theorem may_cases (y mo d h mi s : Int) : MayI y mo d h mi s ∨ (¬ MayI y mo d h mi s ∧ (¬ (1 ≤ y ∧ y ≤ 9999) ∨ ((1 ≤ y ∧ y ≤ 9999) ∧ ¬ (1 ≤ mo ∧ mo ≤ 12)) ∨
    ∃ Y M : Nat, y = (Y : Int) ∧ mo = (M : Int) ∧ (1 ≤ Y ∧ Y ≤ 9999) ∧ (1 ≤ M ∧ M ≤ 12) ∧ (¬ (1 ≤ d ∧ d ≤ (dimM Y M : Int)) ∨ ((1 ≤ d ∧ d ≤ (dimM Y M : Int)) ∧ ¬ (0 ≤ h ∧ h ≤ 23)) ∨ ((1 ≤ d ∧ d ≤ (dimM Y M : Int)) ∧ (0 ≤ h ∧ h ≤ 23) ∧ ¬ (0 ≤ mi ∧ mi ≤ 59)) ∨
      ((1 ≤ d ∧ d ≤ (dimM Y M : Int)) ∧ (0 ≤ h ∧ h ≤ 23) ∧ (0 ≤ mi ∧ mi ≤ 59) ∧ ¬ (0 ≤ s ∧ s ≤ 59))))) := by
  have hN : ∀ {P : Prop}, (∀ t, MayT t → y = (t.y : Int) → mo = (t.mo : Int) → d = (t.d : Int) → h = (t.h : Int) → mi = (t.mi : Int) → s = (t.s : Int) → P → False) → P → ¬ MayI y mo d h mi s := fun hp hP ⟨t, ht, a, b, c, e, f, g⟩ => hp t ht a b c e f g hP
  by_cases h1 : 1 ≤ y ∧ y ≤ 9999
  · by_cases h2 : 1 ≤ mo ∧ mo ≤ 12
    · obtain ⟨Y, rfl⟩ : ∃ Y : Nat, y = (Y : Int) := ⟨y.toNat, by omega⟩
      obtain ⟨M, rfl⟩ : ∃ M : Nat, mo = (M : Int) := ⟨mo.toNat, by omega⟩
      have k1 : 1 ≤ Y ∧ Y ≤ 9999 := by omega
      have k2 : 1 ≤ M ∧ M ≤ 12 := by omega
      have hD : ∀ t : Tmt, (Y : Int) = (t.y : Int) → (M : Int) = (t.mo : Int) → dimM Y M = dimM t.y t.mo := fun t a b => by
        rw [show Y = t.y by omega, show M = t.mo by omega]
      by_cases h3 : 1 ≤ d ∧ d ≤ (dimM Y M : Int)
      · by_cases h4 : 0 ≤ h ∧ h ≤ 23
        · by_cases h5 : 0 ≤ mi ∧ mi ≤ 59
          · by_cases h6 : 0 ≤ s ∧ s ≤ 59
            · refine .inl ⟨⟨Y, M, d.toNat, h.toNat, mi.toNat, s.toNat⟩, ⟨k1.1, k1.2, k2.1, k2.2, ?_, ?_, ?_, ?_, ?_⟩, rfl, rfl, ?_, ?_, ?_, ?_⟩
              all_goals first | (show 1 ≤ d.toNat; omega) | (show d.toNat ≤ dimM Y M; omega) | (show h.toNat ≤ 23; omega) | (show mi.toNat ≤ 59; omega) | (show s.toNat ≤ 59; omega) | (show d = (d.toNat : Int); omega) | (show h = (h.toNat : Int); omega) | (show mi = (mi.toNat : Int); omega) | (show s = (s.toNat : Int); omega)
            · exact .inr ⟨hN (fun t ht _ _ _ _ _ g hP => hP (by have := ht.s2; omega)) h6, .inr (.inr ⟨Y, M, rfl, rfl, k1, k2, .inr (.inr (.inr ⟨h3, h4, h5, h6⟩))⟩)⟩
          · exact .inr ⟨hN (fun t ht _ _ _ _ f _ hP => hP (by have := ht.i2; omega)) h5, .inr (.inr ⟨Y, M, rfl, rfl, k1, k2, .inr (.inr (.inl ⟨h3, h4, h5⟩))⟩)⟩
        · exact .inr ⟨hN (fun t ht _ _ _ e _ _ hP => hP (by have := ht.h2; omega)) h4, .inr (.inr ⟨Y, M, rfl, rfl, k1, k2, .inr (.inl ⟨h3, h4⟩)⟩)⟩
      · exact .inr ⟨hN (fun t ht a b c _ _ _ hP => hP (by have h7 := ht.d1; have h8 := ht.d2; have h9 := hD t a b; omega)) h3, .inr (.inr ⟨Y, M, rfl, rfl, k1, k2, .inl h3⟩)⟩
    · exact .inr ⟨hN (fun t ht _ b _ _ _ _ hP => hP (by have := ht.m1; have := ht.m2; omega)) h2, .inr (.inl ⟨h1, h2⟩)⟩
  · exact .inr ⟨hN (fun t ht a _ _ _ _ _ hP => hP (by have := ht.y1; have := ht.y2; omega)) h1, .inl h1⟩
end Go.Proofs.YthookcnkmlmgcaaGreatDoor
namespace Go.Proofs.YthookcnkmlmgcaaGreatDoor
open Go
set_option maxRecDepth 4000

/-- the value of digits -/
def vl (B : Nat) : List Nat → Nat
  | [] => 0
  | d :: l => d + B * vl B l
/-- digits below the base -/
def Dg (B : Nat) (l : List Nat) : Prop := ∀ d ∈ l, d < B
/-- .. and none of 0 at the end -/
structure Cn (B : Nat) (l : List Nat) : Prop where
  d : Dg B l
  t : l.getLast? ≠ some 0
def dg (l : List Nat) (i : Nat) : Nat := l.getD i 0
theorem dg_in (l : List Nat) (i : Nat) (h : i < l.length) : l[i]? = some (dg l i) := by simp [dg, h]
theorem dg_out (l : List Nat) (i : Nat) (h : l.length ≤ i) : dg l i = 0 := by simp [dg, h]
theorem Dg.at {B : Nat} {l : List Nat} (h : Dg B l) (hB : 0 < B) (i : Nat) : dg l i < B := by
  by_cases hi : i < l.length
  · have e : dg l i = l[i] := by simp [dg, hi]
    rw [e]
    exact h _ (List.getElem_mem hi)
  · rw [dg_out l i (by omega)]; exact hB
theorem Dg.nil (B : Nat) : Dg B [] := fun _ h => by cases h
theorem Dg.append {B : Nat} {a b : List Nat} (ha : Dg B a) (hb : Dg B b) : Dg B (a ++ b) := fun d hd => by
  rcases List.mem_append.1 hd with h | h
  · exact ha d h
  · exact hb d h
theorem Dg.one {B d : Nat} (h : d < B) : Dg B [d] := fun x hx => by
  obtain rfl := List.mem_singleton.1 hx
  exact h
theorem Dg.take {B : Nat} {l : List Nat} (h : Dg B l) (n : Nat) : Dg B (l.take n) := fun d hd => h d (List.mem_of_mem_take hd)
theorem Dg.drop {B : Nat} {l : List Nat} (h : Dg B l) (n : Nat) : Dg B (l.drop n) := fun d hd => h d (List.mem_of_mem_drop hd)
theorem Dg.set {B : Nat} {l : List Nat} (h : Dg B l) (i x : Nat) (hx : x < B) : Dg B (l.set i x) := fun d hd => by
  rcases List.mem_or_eq_of_mem_set hd with h1 | rfl
  · exact h d h1
  · exact hx
theorem vl_append (B : Nat) (a b : List Nat) : vl B (a ++ b) = vl B a + B ^ a.length * vl B b := by
  induction a with
  | nil => simp [vl]
  | cons d l ih =>
    rw [List.cons_append, vl, vl, ih, List.length_cons, Nat.pow_succ, Nat.mul_add, Nat.add_assoc, Nat.mul_comm (B ^ l.length) B, Nat.mul_assoc]
theorem vl_snoc (B : Nat) (a : List Nat) (d : Nat) : vl B (a ++ [d]) = vl B a + B ^ a.length * d := by
  rw [vl_append]; simp [vl]
theorem vl_lt {B : Nat} (_hB : 0 < B) {l : List Nat} (h : Dg B l) : vl B l < B ^ l.length := by
  induction l with
  | nil => simp [vl]
  | cons d l ih =>
    have hd : d < B := h d (by simp)
    have hl := ih fun x hx => h x (by simp [hx])
    rw [vl, List.length_cons, Nat.pow_succ, Nat.mul_comm (B ^ l.length) B]
    have h1 : B * (vl B l + 1) ≤ B * B ^ l.length := Nat.mul_le_mul_left B hl
    rw [Nat.mul_add] at h1
    omega
theorem vl_zeros (B n : Nat) : vl B (List.replicate n 0) = 0 := by
  induction n with
  | zero => rfl
  | succ n ih => rw [List.replicate_succ, vl, ih]; simp
theorem take_succ_dg (l : List Nat) (i : Nat) (h : i < l.length) : l.take (i + 1) = l.take i ++ [dg l i] := by
  rw [List.take_add_one, dg_in l i h]; rfl
theorem vl_take_succ (B : Nat) (l : List Nat) (i : Nat) : vl B (l.take (i + 1)) = vl B (l.take i) + B ^ i * dg l i := by
  by_cases h : i < l.length
  · rw [take_succ_dg l i h, vl_snoc, List.length_take, Nat.min_eq_left (by omega)]
  · rw [dg_out l i (by omega), List.take_of_length_le (by omega), List.take_of_length_le (by omega)]; simp
theorem vl_take_all (B : Nat) (l : List Nat) (i : Nat) (h : l.length ≤ i) : vl B (l.take i) = vl B l := by rw [List.take_of_length_le h]
/-- a digit among the others -/
theorem vl_split (B : Nat) (l : List Nat) (i : Nat) (h : i < l.length) : vl B l = vl B (l.take i) + B ^ i * (dg l i + B * vl B (l.drop (i + 1))) := by
  have e : l = l.take i ++ (dg l i :: l.drop (i + 1)) := by
    have e1 : dg l i = l[i] := by simp [dg, h]
    rw [e1, ← List.drop_eq_getElem_cons h, List.take_append_drop]
  rw [congrArg (vl B) e, vl_append, List.length_take, Nat.min_eq_left (by omega), vl]
theorem vl_set (B : Nat) (l : List Nat) (i x : Nat) (h : i < l.length) : vl B (l.set i x) + B ^ i * dg l i = vl B l + B ^ i * x := by
  have h1 := vl_split B (l.set i x) i (by simpa using h)
  have h2 := vl_split B l i h
  have e1 : (l.set i x).take i = l.take i := List.take_set_of_le (Nat.le_refl _)
  have e2 : (l.set i x).drop (i + 1) = l.drop (i + 1) := List.drop_set_of_lt (by omega)
  have e3 : dg (l.set i x) i = x := by simp [dg, h]
  rw [e1, e2, e3] at h1
  rw [h1, h2, Nat.mul_add, Nat.mul_add]
  omega
theorem dg_set (l : List Nat) (i j x : Nat) (h : i < l.length) : dg (l.set i x) j = if j = i then x else dg l j := by
  unfold dg
  rw [List.getD_eq_getElem?_getD, List.getD_eq_getElem?_getD, List.getElem?_set]
  by_cases e : j = i
  · subst e; simp [h]
  · rw [if_neg e, if_neg (fun e1 => e e1.symm)]

theorem Cn.nil (B : Nat) : Cn B [] := ⟨Dg.nil B, by simp⟩
theorem Cn.tail {B d : Nat} {l : List Nat} (h : Cn B (d :: l)) : Cn B l := by
  refine ⟨fun x hx => h.d x (by simp [hx]), fun e => h.t ?_⟩
  cases l with
  | nil => simp at e
  | cons y l => rw [List.getLast?_cons_cons]; exact e
theorem cn_zero {B : Nat} (hB : 0 < B) : ∀ {l : List Nat}, Cn B l → vl B l = 0 → l = []
  | [], _, _ => rfl
  | d :: l, h, e => by
    rw [vl] at e
    have h1 : d = 0 := by omega
    have h2 : vl B l = 0 := by
      have h3 : B * vl B l = 0 := by omega
      rcases Nat.mul_eq_zero.1 h3 with h4 | h4
      · omega
      · exact h4
    have h5 := cn_zero hB h.tail h2
    subst h5 h1
    exact absurd rfl h.t
/-- the shortest form of a value is one -/
theorem cn_unique {B : Nat} (hB : 0 < B) : ∀ {a b : List Nat}, Cn B a → Cn B b → vl B a = vl B b → a = b
  | [], b, _, hb, e => (cn_zero hB hb (by rw [← e]; rfl)).symm
  | d :: l, [], ha, _, e => cn_zero hB ha (by rw [e]; rfl)
  | d :: l, d' :: l', ha, hb, e => by
    have h1 : d < B := ha.d d (by simp)
    have h2 : d' < B := hb.d d' (by simp)
    rw [vl, vl] at e
    have h3 : d = d' := by
      have h4 := congrArg (· % B) e
      simp only [Nat.add_mul_mod_self_left] at h4
      rwa [Nat.mod_eq_of_lt h1, Nat.mod_eq_of_lt h2] at h4
    subst h3
    have h5 : vl B l = vl B l' := Nat.eq_of_mul_eq_mul_left hB (by omega)
    rw [cn_unique hB ha.tail hb.tail h5]
/-- the digits of a number -/
def dgsF (B : Nat) : Nat → Nat → List Nat
  | 0, _ => []
  | f + 1, n => if n = 0 then [] else n % B :: dgsF B f (n / B)
def dgs (B n : Nat) : List Nat := dgsF B n n
theorem dgsF_vl {B : Nat} (hB : 2 ≤ B) : ∀ f n, n ≤ f → vl B (dgsF B f n) = n ∧ Cn B (dgsF B f n)
  | 0, n, h => by
    obtain rfl : n = 0 := by omega
    exact ⟨rfl, Cn.nil B⟩
  | f + 1, n, h => by
    rw [dgsF]
    by_cases h0 : n = 0
    · rw [if_pos h0, h0]; exact ⟨rfl, Cn.nil B⟩
    · rw [if_neg h0]
      have hlt : n / B < n := Nat.div_lt_self (by omega) hB
      obtain ⟨h1, h2⟩ := dgsF_vl hB f (n / B) (by omega)
      refine ⟨by rw [vl, h1]; exact Nat.mod_add_div n B, ⟨fun d hd => ?_, ?_⟩⟩
      · rcases List.mem_cons.1 hd with rfl | hd
        · exact Nat.mod_lt _ (by omega)
        · exact h2.d d hd
      · cases hl : dgsF B f (n / B) with
        | nil =>
          rw [hl] at h1
          have h3 : n / B = 0 := h1.symm
          have h4 : n < B := (Nat.div_eq_zero_iff_lt (by omega)).1 h3
          rw [Nat.mod_eq_of_lt h4]
          simpa using h0
        | cons y l =>
          rw [List.getLast?_cons_cons, ← hl]
          exact h2.t
theorem vl_dgs {B : Nat} (hB : 2 ≤ B) (n : Nat) : vl B (dgs B n) = n := (dgsF_vl hB n n (Nat.le_refl _)).1
theorem cn_dgs {B : Nat} (hB : 2 ≤ B) (n : Nat) : Cn B (dgs B n) := (dgsF_vl hB n n (Nat.le_refl _)).2
theorem dgs_vl {B : Nat} (hB : 2 ≤ B) {l : List Nat} (h : Cn B l) : dgs B (vl B l) = l := cn_unique (by omega) (cn_dgs hB _) h (vl_dgs hB _)
theorem dgs_of {B : Nat} (hB : 2 ≤ B) {l : List Nat} {n : Nat} (h : Cn B l) (e : vl B l = n) : l = dgs B n := by rw [← e, dgs_vl hB h]
theorem dgs_nil {B : Nat} (hB : 2 ≤ B) (n : Nat) : dgs B n = [] ↔ n = 0 := by
  constructor
  · intro h
    have h1 := vl_dgs hB n
    rw [h] at h1
    exact h1.symm
  · intro h; subst h; rfl
/-- cut behind the last digit that isn't 0 -/
theorem cut_cn {B : Nat} (hB : 2 ≤ B) {l : List Nat} (hd : Dg B l) (n : Nat) (hn : n ≤ l.length) (hz : ∀ i, n ≤ i → dg l i = 0) (ht : n = 0 ∨ dg l (n - 1) ≠ 0) : l.take n = dgs B (vl B l) := by
  refine dgs_of hB ⟨hd.take n, fun e => ?_⟩ ?_
  · rcases ht with rfl | ht
    · simp at e
    · by_cases h0 : n = 0
      · subst h0; simp at e
      · obtain ⟨m, rfl⟩ : ∃ m, n = m + 1 := ⟨n - 1, by omega⟩
        rw [take_succ_dg l m (by omega), List.getLast?_concat] at e
        exact ht (by simpa using e)
  · have h1 : ∀ k, vl B (l.take (n + k)) = vl B (l.take n) := by
      intro k
      induction k with
      | zero => rfl
      | succ k ih => rw [← Nat.add_assoc, vl_take_succ, ih, hz (n + k) (by omega)]; simp
    have h2 := h1 (l.length - n)
    rw [show n + (l.length - n) = l.length by omega, List.take_length] at h2
    exact h2.symm
/-- the highest digit -/
theorem cn_lo {B : Nat} (_hB : 0 < B) {l : List Nat} (h : Cn B l) (hl : l ≠ []) : B ^ (l.length - 1) ≤ vl B l := by
  have hn : 0 < l.length := List.length_pos_iff.2 hl
  have h1 := vl_split B l (l.length - 1) (by omega)
  have h2 : dg l (l.length - 1) ≠ 0 := fun e => h.t (by rw [List.getLast?_eq_getElem?, dg_in l _ (by omega), e])
  have h3 : B ^ (l.length - 1) * 1 ≤ B ^ (l.length - 1) * (dg l (l.length - 1) + B * vl B (l.drop (l.length - 1 + 1))) := Nat.mul_le_mul_left _ (by omega)
  omega
theorem cn_len_lt {B : Nat} (hB : 0 < B) {a b : List Nat} (ha : Cn B a) (hb : Cn B b) (h : a.length < b.length) : vl B a < vl B b := by
  have h1 := vl_lt hB ha.d
  have h2 := cn_lo hB hb (fun e => by rw [e] at h; simp at h)
  have h3 : B ^ a.length ≤ B ^ (b.length - 1) := Nat.pow_le_pow_right hB (by omega)
  omega
/-- the first digit from above that parts two numbers -/
theorem vl_lt_at {B : Nat} (hB : 0 < B) {a b : List Nat} (ha : Dg B a) (i : Nat) (hia : i < a.length) (hib : i < b.length) (hd : a.drop (i + 1) = b.drop (i + 1)) (h : dg a i < dg b i) : vl B a < vl B b := by
  have h1 := vl_split B a i hia
  have h2 := vl_split B b i hib
  have h3 := vl_lt hB (ha.take i)
  rw [List.length_take, Nat.min_eq_left (by omega)] at h3
  rw [hd] at h1
  have h4 : B ^ i * (dg a i + B * vl B (b.drop (i + 1)) + 1) ≤ B ^ i * (dg b i + B * vl B (b.drop (i + 1))) := Nat.mul_le_mul_left _ (by omega)
  rw [Nat.mul_add] at h4
  omega

/-- digits to the base's square, split in two; and joined -/
def sp (B : Nat) : List Nat → List Nat
  | [] => []
  | x :: l => x % B :: x / B :: sp B l
def jn (B : Nat) : List Nat → List Nat
  | [] => []
  | [x] => [x]
  | x :: y :: l => (x + y * B) :: jn B l
theorem sp_vl (B : Nat) : ∀ l, vl B (sp B l) = vl (B * B) l
  | [] => rfl
  | x :: l => by
    rw [sp, vl, vl, vl, sp_vl B l, Nat.mul_add, ← Nat.add_assoc, Nat.mul_assoc]
    rw [Nat.mod_add_div]
theorem sp_dg {B : Nat} (hB : 0 < B) : ∀ {l}, Dg (B * B) l → Dg B (sp B l)
  | [], _ => Dg.nil B
  | x :: l, h => fun d hd => by
    have hx : x < B * B := h x (by simp)
    rw [sp] at hd
    rcases List.mem_cons.1 hd with rfl | hd
    · exact Nat.mod_lt _ hB
    · rcases List.mem_cons.1 hd with rfl | hd
      · exact (Nat.div_lt_iff_lt_mul hB).2 hx
      · exact sp_dg hB (fun y hy => h y (by simp [hy])) d hd
theorem jn_vl (B : Nat) : ∀ l, vl (B * B) (jn B l) = vl B l
  | [] => rfl
  | [x] => by simp [jn, vl]
  | x :: y :: l => by
    rw [jn, vl, vl, vl, jn_vl B l, Nat.mul_add, Nat.mul_assoc, Nat.mul_comm y B, Nat.add_assoc]
theorem jn_dg {B : Nat} (hB : 1 < B) : ∀ {l}, Dg B l → Dg (B * B) (jn B l)
  | [], _ => Dg.nil _
  | [x], h => by
    have hx : x < B := h x (by simp)
    have : B * 1 ≤ B * B := Nat.mul_le_mul_left B (by omega)
    exact Dg.one (by omega)
  | x :: y :: l, h => fun d hd => by
    have hx : x < B := h x (by simp)
    have hy : y < B := h y (by simp)
    rw [jn] at hd
    rcases List.mem_cons.1 hd with rfl | hd
    · have h1 : (y + 1) * B ≤ B * B := Nat.mul_le_mul_right B hy
      rw [Nat.add_mul] at h1
      omega
    · exact jn_dg hB (fun z hz => h z (by simp [hz])) d hd
theorem jn_nil (B : Nat) {l : List Nat} (h : jn B l = []) : l = [] := by
  match l, h with
  | [], _ => rfl
  | [x], h => simp [jn] at h
  | x :: y :: l, h => simp [jn] at h
theorem jn_cn {B : Nat} (hB : 1 < B) : ∀ {l}, Cn B l → Cn (B * B) (jn B l)
  | [], _ => Cn.nil _
  | [x], h => ⟨jn_dg hB h.d, by simpa [jn] using h.t⟩
  | x :: y :: l, h => by
    refine ⟨jn_dg hB h.d, fun e => ?_⟩
    have hl := jn_cn hB h.tail.tail
    rw [jn] at e
    cases hj : jn B l with
    | nil =>
      have h0 := jn_nil B hj
      subst h0
      rw [hj] at e
      have h1 : x + y * B = 0 := by simpa using e
      have h2 : y = 0 := by
        have h3 : y * B = 0 := by omega
        rcases Nat.mul_eq_zero.1 h3 with h4 | h4 <;> omega
      subst h2
      exact absurd rfl h.t
    | cons z k =>
      rw [hj, List.getLast?_cons_cons, ← hj] at e
      exact hl.t e
theorem jn_dgs {B : Nat} (hB : 2 ≤ B) (n : Nat) : jn B (dgs B n) = dgs (B * B) n :=
  dgs_of (by have : B * 1 ≤ B * B := Nat.mul_le_mul_left B (by omega); omega) (jn_cn (by omega) (cn_dgs hB n)) (by rw [jn_vl, vl_dgs hB])
end Go.Proofs.YthookcnkmlmgcaaGreatDoor
namespace Go.Proofs.YthookcnkmlmgcaaGreatDoor
open Go
set_option maxRecDepth 4000

/-- a sum, behind i digits -/
structure AddS (B : Nat) (a b : List Nat) (i : Nat) (out : List Nat) (c : Nat) : Prop where
  len : out.length = i
  d : Dg B out
  cr : c ≤ 1
  v : vl B out + B ^ i * c = vl B (a.take i) + vl B (b.take i)
theorem AddS.start (B : Nat) (a b : List Nat) : AddS B a b 0 [] 0 := ⟨rfl, Dg.nil B, by omega, by simp [vl]⟩
theorem AddS.next {B : Nat} (hB : 2 ≤ B) {a b out : List Nat} {i c : Nat} (ha : Dg B a) (hb : Dg B b) (h : AddS B a b i out c) : AddS B a b (i + 1) (out ++ [(c + dg a i + dg b i) % B]) ((c + dg a i + dg b i) / B) := by
  have h1 := ha.at (by omega) i
  have h2 := hb.at (by omega) i
  have h3 := h.cr
  refine ⟨by simp [h.len], h.d.append (Dg.one (Nat.mod_lt _ (by omega))), ?_, ?_⟩
  · have : (c + dg a i + dg b i) / B < 2 := (Nat.div_lt_iff_lt_mul (by omega)).2 (by omega)
    omega
  · rw [vl_snoc, h.len, vl_take_succ, vl_take_succ, Nat.pow_succ, Nat.mul_assoc, Nat.add_assoc, ← Nat.mul_add, Nat.mod_add_div, Nat.mul_add, Nat.mul_add]
    have := h.v
    omega
theorem AddS.done {B : Nat} {a b out : List Nat} {i : Nat} (h : AddS B a b i out 0) (ha : a.length ≤ i) (hb : b.length ≤ i) : vl B out = vl B a + vl B b := by
  have := h.v
  rw [vl_take_all B a i ha, vl_take_all B b i hb] at this
  simpa using this
/-- a difference, behind i digits: c is what was borrowed -/
structure SubS (B : Nat) (a b : List Nat) (i : Nat) (out : List Nat) (c : Nat) : Prop where
  len : out.length = i
  d : Dg B out
  cr : c ≤ 1
  v : vl B (a.take i) + B ^ i * c = vl B out + vl B (b.take i)
theorem SubS.start (B : Nat) (a b : List Nat) : SubS B a b 0 [] 0 := ⟨rfl, Dg.nil B, by omega, by simp [vl]⟩
theorem SubS.keep {B : Nat} {a b out : List Nat} {i c : Nat} (ha : Dg B a) (hB : 2 ≤ B) (h : SubS B a b i out c) (hge : dg b i + c ≤ dg a i) : SubS B a b (i + 1) (out ++ [dg a i - dg b i - c]) 0 := by
  have h1 := ha.at (by omega) i
  refine ⟨by simp [h.len], h.d.append (Dg.one (by omega)), by omega, ?_⟩
  rw [vl_snoc, h.len, vl_take_succ, vl_take_succ]
  have hv := h.v
  obtain ⟨x, hx⟩ : ∃ x, dg a i = x + dg b i + c := ⟨dg a i - dg b i - c, by omega⟩
  rw [hx, show x + dg b i + c - dg b i - c = x by omega, Nat.mul_add, Nat.mul_add]
  omega
theorem SubS.borrow {B : Nat} {a b out : List Nat} {i c : Nat} (hb : Dg B b) (hB : 2 ≤ B) (h : SubS B a b i out c) (hlt : dg a i < dg b i + c) : SubS B a b (i + 1) (out ++ [dg a i + B - dg b i - c]) 1 := by
  have h1 := hb.at (by omega) i
  have h2 := h.cr
  refine ⟨by simp [h.len], h.d.append (Dg.one (by omega)), by omega, ?_⟩
  rw [vl_snoc, h.len, vl_take_succ, vl_take_succ, Nat.pow_succ, Nat.mul_one]
  have hv := h.v
  obtain ⟨x, hx⟩ : ∃ x, dg a i + B = x + dg b i + c := ⟨dg a i + B - dg b i - c, by omega⟩
  have h3 : B ^ i * dg a i + B ^ i * B = B ^ i * x + B ^ i * dg b i + B ^ i * c := by rw [← Nat.mul_add, hx, Nat.mul_add, Nat.mul_add]
  rw [hx, show x + dg b i + c - dg b i - c = x by omega]
  omega
theorem SubS.done {B : Nat} (hB : 0 < B) {a b out : List Nat} {i c : Nat} (h : SubS B a b i out c) (ha : a.length ≤ i) (hb : b.length ≤ i) (hle : vl B b ≤ vl B a) : c = 0 ∧ vl B out = vl B a - vl B b := by
  have hv := h.v
  rw [vl_take_all B a i ha, vl_take_all B b i hb] at hv
  have h1 := vl_lt hB h.d
  rw [h.len] at h1
  have h2 := h.cr
  have h3 : c = 0 := by
    by_cases hc : c = 1
    · subst hc; omega
    · omega
  subst h3
  exact ⟨rfl, by omega⟩
/-- a product, behind i digits of a -/
structure MulS (B : Nat) (a b : List Nat) (i : Nat) (out : List Nat) : Prop where
  len : out.length = a.length + b.length
  d : Dg B out
  z : ∀ j, i + b.length ≤ j → dg out j = 0
  v : vl B out = vl B (a.take i) * vl B b
/-- .. and k digits of b: c is what is carried -/
structure MulT (B : Nat) (a b : List Nat) (i k : Nat) (out : List Nat) (c : Nat) : Prop where
  len : out.length = a.length + b.length
  d : Dg B out
  z : ∀ j, i + b.length ≤ j → dg out j = 0
  cr : c < B
  v : vl B out + B ^ (i + k) * c = vl B (a.take i) * vl B b + B ^ i * (dg a i * vl B (b.take k))
theorem dg_zeros (n j : Nat) : dg (List.replicate n 0) j = 0 := by
  unfold dg
  rw [List.getD_eq_getElem?_getD, List.getElem?_replicate]
  split <;> rfl
theorem MulS.start {B : Nat} (hB : 0 < B) (a b : List Nat) : MulS B a b 0 (List.replicate (a.length + b.length) 0) :=
  ⟨by simp, fun d hd => by rw [(List.mem_replicate.1 hd).2]; exact hB, fun j _ => dg_zeros _ _, by rw [vl_zeros]; simp [vl]⟩
theorem MulS.enter {B : Nat} (hB : 0 < B) {a b out : List Nat} {i : Nat} (h : MulS B a b i out) : MulT B a b i 0 out 0 := ⟨h.len, h.d, h.z, hB, by simp [h.v, vl]⟩
theorem mul_room {B x y c o : Nat} (hx : x < B) (hy : y < B) (hc : c < B) (ho : o < B) : (c + x * y + o) / B < B := by
  refine (Nat.div_lt_iff_lt_mul (by omega)).2 ?_
  obtain ⟨k, rfl⟩ : ∃ k, B = k + 1 := ⟨B - 1, by omega⟩
  have h1 : x * y ≤ k * k := Nat.mul_le_mul (by omega) (by omega)
  have h2 : (k + 1) * (k + 1) = k * k + k + k + 1 := by rw [Nat.add_mul, Nat.mul_add]; omega
  omega
theorem MulT.next {B : Nat} {a b out : List Nat} {i k c : Nat} (ha : Dg B a) (hb : Dg B b) (hB : 2 ≤ B) (hi : i < a.length) (hk : k < b.length) (h : MulT B a b i k out c) :
    MulT B a b i (k + 1) (out.set (i + k) ((c + dg a i * dg b k + dg out (i + k)) % B)) ((c + dg a i * dg b k + dg out (i + k)) / B) := by
  have hl : i + k < out.length := by rw [h.len]; omega
  have h1 := vl_set B out (i + k) ((c + dg a i * dg b k + dg out (i + k)) % B) hl
  have h2 := Nat.mod_add_div (c + dg a i * dg b k + dg out (i + k)) B
  refine ⟨by rw [List.length_set]; exact h.len, h.d.set _ _ (Nat.mod_lt _ (by omega)), fun j hj => ?_, mul_room (ha.at (by omega) i) (hb.at (by omega) k) h.cr (h.d.at (by omega) _), ?_⟩
  · rw [dg_set _ _ _ _ hl, if_neg (by omega)]; exact h.z j hj
  · have hv := h.v
    generalize (c + dg a i * dg b k + dg out (i + k)) % B = r at *
    generalize (c + dg a i * dg b k + dg out (i + k)) / B = q at *
    have h3 : B ^ (i + k) * r + B ^ (i + (k + 1)) * q = B ^ (i + k) * c + B ^ i * (dg a i * (B ^ k * dg b k)) + B ^ (i + k) * dg out (i + k) := by
      rw [← Nat.add_assoc, Nat.pow_succ, Nat.mul_assoc, ← Nat.mul_add, h2, Nat.mul_add, Nat.mul_add]
      congr 2
      rw [Nat.pow_add]
      simp only [Nat.mul_assoc, Nat.mul_left_comm]
    rw [vl_take_succ, Nat.mul_add, Nat.mul_add]
    omega
theorem MulT.leave {B : Nat} {a b out : List Nat} {i c : Nat} (hi : i < a.length) (h : MulT B a b i b.length out c) : MulS B a b (i + 1) (out.set (i + b.length) c) := by
  have hl : i + b.length < out.length := by rw [h.len]; omega
  have h1 := vl_set B out (i + b.length) c hl
  rw [h.z (i + b.length) (Nat.le_refl _), Nat.mul_zero, Nat.add_zero] at h1
  refine ⟨by rw [List.length_set]; exact h.len, h.d.set _ _ h.cr, fun j hj => ?_, ?_⟩
  · rw [dg_set _ _ _ _ hl, if_neg (by omega)]; exact h.z j (by omega)
  · rw [h1, h.v, List.take_length, vl_take_succ, Nat.add_mul, Nat.mul_assoc]
theorem MulS.done {B : Nat} {a b out : List Nat} (h : MulS B a b a.length out) : vl B out = vl B a * vl B b := by rw [h.v, List.take_length]
/-- how often at least: by the first digits -/
theorem fit_le {B b r hi rh d : Nat} (n : Nat) (hb : b < (hi + 1) * B ^ n) (hr : rh * B ^ n ≤ r) (hd : d = rh / (hi + 1)) : d * b ≤ r := by
  subst hd
  have h1 : rh / (hi + 1) * (hi + 1) ≤ rh := Nat.div_mul_le_self _ _
  have h2 : rh / (hi + 1) * b ≤ rh / (hi + 1) * ((hi + 1) * B ^ n) := Nat.mul_le_mul_left _ (Nat.le_of_lt hb)
  rw [← Nat.mul_assoc] at h2
  have h3 := Nat.mul_le_mul_right (B ^ n) h1
  omega
/-- the digits from i on, with the one below -/
theorem vl_drop (B : Nat) (l : List Nat) (i : Nat) (h : i < l.length) : vl B (l.drop i) = dg l i + B * vl B (l.drop (i + 1)) := by
  have e1 : dg l i = l[i] := by simp [dg, h]
  rw [e1, List.drop_eq_getElem_cons h, vl]
/-- a bit of a number, in the digit that holds it -/
theorem bit_dg (s : Nat) (l : List Nat) (hl : Dg (2 ^ s) l) (i : Nat) (hs : 0 < s) : vl (2 ^ s) l / 2 ^ i % 2 = dg l (i / s) / 2 ^ (i % s) % 2 := by
  have hB : 0 < 2 ^ s := Nat.pow_pos (by decide)
  by_cases h : i / s < l.length
  · have h1 := vl_split (2 ^ s) l (i / s) h
    have h2 := vl_lt hB (hl.take (i / s))
    rw [List.length_take, Nat.min_eq_left (by omega)] at h2
    have h3 : 2 ^ i = (2 ^ s) ^ (i / s) * 2 ^ (i % s) := by rw [← Nat.pow_mul, ← Nat.pow_add, Nat.div_add_mod]
    rw [h1, h3, ← Nat.div_div_eq_div_mul, Nat.add_mul_div_left _ _ (Nat.pow_pos hB), Nat.div_eq_of_lt h2, Nat.zero_add]
    have h4 : i % s < s := Nat.mod_lt _ hs
    have h5 : 2 ^ s = 2 ^ (i % s) * (2 * 2 ^ (s - i % s - 1)) := by rw [← Nat.pow_succ', ← Nat.pow_add]; congr 1; omega
    have h6 : ∀ z, (dg l (i / s) + 2 ^ s * z) / 2 ^ (i % s) = dg l (i / s) / 2 ^ (i % s) + 2 * (2 ^ (s - i % s - 1) * z) := fun z => by
      rw [h5, Nat.mul_assoc, Nat.add_mul_div_left _ _ (Nat.pow_pos (by decide)), Nat.mul_assoc]
    rw [h6, Nat.add_mul_mod_self_left]
  · rw [dg_out l _ (by omega), Nat.zero_div]
    have h2 := vl_lt hB hl
    have h3 : (2 ^ s) ^ l.length ≤ 2 ^ i := by
      rw [← Nat.pow_mul]
      refine Nat.pow_le_pow_right (by decide) ?_
      have := Nat.mul_le_mul_left s (show l.length ≤ i / s by omega)
      have h5 := Nat.div_add_mod i s
      omega
    rw [Nat.div_eq_of_lt (by omega)]
/-- a power, bit by bit from above -/
theorem pow_bit (a e m i : Nat) : a ^ (e / 2 ^ i) % m = ((a ^ (e / 2 ^ (i + 1)) % m) * (a ^ (e / 2 ^ (i + 1)) % m) % m * (if e / 2 ^ i % 2 = 1 then a % m else 1)) % m := by
  have h1 : e / 2 ^ i = 2 * (e / 2 ^ (i + 1)) + e / 2 ^ i % 2 := by
    rw [Nat.pow_succ, ← Nat.div_div_eq_div_mul]
    omega
  have h2 : a ^ (2 * (e / 2 ^ (i + 1))) = a ^ (e / 2 ^ (i + 1)) * a ^ (e / 2 ^ (i + 1)) := by rw [Nat.two_mul, Nat.pow_add]
  rw [congrArg (fun z => a ^ z % m) h1]
  rw [Nat.pow_add, h2, ← Nat.mul_mod, Nat.mod_mul_mod]
  rcases Nat.mod_two_eq_zero_or_one (e / 2 ^ i) with h | h
  · rw [h, if_neg (by decide), Nat.pow_zero]
  · rw [h, if_pos rfl, Nat.pow_one, Nat.mul_mod_mod]
end Go.Proofs.YthookcnkmlmgcaaGreatDoor
