/-
  Numbers in groups of seven bits, one behind the other; identifiers; plain (for layer 8).
-/
import Derived.Test.YthookcnkmlmgcaaVBy
namespace Go.Proofs.Ythookcnkmlmgcaa
open Go
set_option maxRecDepth 4000

/-- the groups ahead of the last one, each in a byte whose highest bit is 1; all of them -/
def g7hi (n : Nat) : List (BitVec 8) := if _h : n = 0 then [] else g7hi (n / 128) ++ [BitVec.ofNat 8 (n % 128 + 128)]
  termination_by n
  decreasing_by omega
def g7 (n : Nat) : List (BitVec 8) := g7hi (n / 128) ++ [BitVec.ofNat 8 (n % 128)]
theorem g7hi_zero : g7hi 0 = [] := by rw [g7hi]; rfl
theorem g7hi_pos (n : Nat) (h : n ≠ 0) : g7hi n = g7hi (n / 128) ++ [BitVec.ofNat 8 (n % 128 + 128)] := by
  conv => lhs; rw [g7hi]
  rw [dif_neg h]
theorem g7_small (n : Nat) (h : n < 128) : g7 n = [BitVec.ofNat 8 n] := by
  unfold g7
  rw [show n / 128 = 0 by omega, g7hi_zero, List.nil_append, show n % 128 = n by omega]
/-- how many bytes: five at most below 2^35 -/
theorem g7hi_len : ∀ (k n : Nat), n < 128 ^ k → (g7hi n).length ≤ k
  | 0, n, h => by rw [show n = 0 by simpa using h, g7hi_zero]; exact Nat.le_refl _
  | k + 1, n, h => by
    by_cases h0 : n = 0
    · rw [h0, g7hi_zero]; exact Nat.zero_le _
    · rw [g7hi_pos n h0, List.length_append, List.length_singleton]
      have := g7hi_len k (n / 128) (by rw [Nat.div_lt_iff_lt_mul (by decide)]; rw [Nat.pow_succ] at h; exact h)
      omega
theorem g7_len (n : Nat) (h : n < 4294967296) : 1 ≤ (g7 n).length ∧ (g7 n).length ≤ 5 := by
  unfold g7
  rw [List.length_append, List.length_singleton]
  have := g7hi_len 4 (n / 128) (by show n / 128 < 268435456; omega)
  omega
/-- the numbers that groups make, from a number on -/
def p7 : Nat → List (BitVec 8) → List Nat
  | _, [] => []
  | n, x :: r => if x.toNat < 128 then (n * 128 + x.toNat % 128) :: p7 0 r else p7 (n * 128 + x.toNat % 128) r
theorem p7_hi : ∀ (n : Nat) (r : List (BitVec 8)), p7 0 (g7hi n ++ r) = p7 n r := by
  intro n
  induction n using Nat.strongRecOn with
  | ind n ih =>
    intro r
    by_cases h0 : n = 0
    · rw [h0, g7hi_zero]; rfl
    · rw [g7hi_pos n h0, List.append_assoc, ih (n / 128) (by omega)]
      show p7 (n / 128) (BitVec.ofNat 8 (n % 128 + 128) :: r) = _
      have e : (BitVec.ofNat 8 (n % 128 + 128)).toNat = n % 128 + 128 := by rw [BitVec.toNat_ofNat]; omega
      rw [p7, e, if_neg (by omega), show n / 128 * 128 + (n % 128 + 128) % 128 = n by omega]
theorem p7_one (n : Nat) (r : List (BitVec 8)) : p7 0 (g7 n ++ r) = n :: p7 0 r := by
  unfold g7
  rw [List.append_assoc, p7_hi]
  show p7 (n / 128) (BitVec.ofNat 8 (n % 128) :: r) = _
  have e : (BitVec.ofNat 8 (n % 128)).toNat = n % 128 := by rw [BitVec.toNat_ofNat]; omega
  rw [p7, e, if_pos (by omega), show n / 128 * 128 + n % 128 % 128 = n by omega]
/-- numbers one behind the other -/
def g7s (l : List Nat) : List (BitVec 8) := l.flatMap g7
theorem p7_all : ∀ l : List Nat, p7 0 (g7s l) = l
  | [] => rfl
  | n :: r => by
    show p7 0 (g7 n ++ g7s r) = _
    rw [p7_one, p7_all r]
theorem g7s_inj {a b : List Nat} (h : g7s a = g7s b) : a = b := by rw [← p7_all a, h, p7_all]
theorem g7s_len : ∀ l : List Nat, (∀ n ∈ l, n < 4294967296) → l.length ≤ (g7s l).length ∧ (g7s l).length ≤ 5 * l.length
  | [], _ => ⟨Nat.le_refl _, Nat.le_refl _⟩
  | n :: r, h => by
    have h1 := g7s_len r fun m hm => h m (List.mem_cons_of_mem _ hm)
    have h2 := g7_len n (h n (by simp))
    show _ ≤ (g7 n ++ g7s r).length ∧ (g7 n ++ g7s r).length ≤ _
    rw [List.length_append, List.length_cons]
    omega
/-- identifiers: 2 to 16 numbers; the first two in one -/
def OidP (l : List Nat) : Prop := ∃ a b r, l = a :: b :: r ∧ l.length ≤ 16 ∧ a ≤ 2 ∧ (a < 2 → b < 40) ∧ b ≤ 4294967215 ∧ ∀ n ∈ r, n < 4294967296
def oidL (l : List Nat) : List Nat := match l with
  | a :: b :: r => (40 * a + b) :: r
  | _ => []
def oidB (l : List Nat) : List (BitVec 8) := g7s (oidL l)
/-- the identifier of numbers -/
def oidU (l : List Nat) : List Nat := match l with
  | [] => []
  | z :: r => (if z / 40 > 2 then 2 else z / 40) :: (z - 40 * (if z / 40 > 2 then 2 else z / 40)) :: r
theorem oidU_L {l : List Nat} (h : OidP l) : oidU (oidL l) = l := by
  obtain ⟨a, b, r, rfl, _, ha, hb, _, _⟩ := h
  show (if (40 * a + b) / 40 > 2 then 2 else (40 * a + b) / 40) :: ((40 * a + b) - 40 * (if (40 * a + b) / 40 > 2 then 2 else (40 * a + b) / 40)) :: r = _
  have e : (if (40 * a + b) / 40 > 2 then 2 else (40 * a + b) / 40) = a := by
    split <;> omega
  rw [e, show 40 * a + b - 40 * a = b by omega]
/-- each identifier has a body of its own, which says it -/
theorem oid_back {l : List Nat} (h : OidP l) : oidU (p7 0 (oidB l)) = l := by
  unfold oidB
  rw [p7_all, oidU_L h]
theorem oid_inj {a b : List Nat} (ha : OidP a) (hb : OidP b) (h : oidB a = oidB b) : a = b := by rw [← oid_back ha, h, oid_back hb]
theorem oidB_len {l : List Nat} (h : OidP l) : (oidB l).length ≤ 75 := by
  obtain ⟨a, b, r, rfl, h1, ha, hb, hc, hr⟩ := h
  have h2 := (g7s_len ((40 * a + b) :: r) fun n hn => by
    rcases List.mem_cons.1 hn with rfl | hn
    · omega
    · exact hr n hn).2
  show (g7s ((40 * a + b) :: r)).length ≤ 75
  rw [List.length_cons] at h1 h2
  rw [List.length_cons] at h1
  omega
end Go.Proofs.Ythookcnkmlmgcaa
