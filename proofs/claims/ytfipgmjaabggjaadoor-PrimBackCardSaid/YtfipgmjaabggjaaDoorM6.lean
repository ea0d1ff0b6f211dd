/-
  nat: rows of limbs copied and cleared; sum and difference.
  nat: multiply, product.
  nat: sum.
  nat: product, shiftUp.
-/
import Derived.Test.YtfipgmjaabggjaaDoorM5
import Derived.Laws.CopyRow
import Derived.Lib.SliceRun
namespace Go.Proofs.YtfipgmjaabggjaaDoor
open Go Go.RowKit
set_option maxRecDepth 4000

theorem one_vL (l : List Nat) : ∀ v ∈ l.map vL, v.oneCell' = true := fun v hv => by
  obtain ⟨b, _, rfl⟩ := List.mem_map.1 hv
  rfl
theorem setRow_mds (w : World) (g : Nat) (cs : Array Value) : Mds [g] w (w.setRow g cs) :=
  ⟨rfl, rfl, rfl, by simp, fun k _ hk => setRow_other w g k cs (by simpa using hk)⟩
/-- copy(a, b), a a block whole -/
theorem run_copy_L (ty : TypeId) {w : World} {g n c N cd : Nat} {A : Option Addr} {L l K : List Nat} (hB : Lb w g L) (hN : L.length = N) (hl : Rd vL w A n c l) (hK : l.take N ++ L.drop n = K) :
    ∃ w' z, (Builtin.copy_ #[nt, nt] ty #[.slice (some ⟨g, 0, none⟩) N cd, .slice A n c]).run Tryd.prog w = .ok z w' ∧ Lb w' g K ∧ Mds [g] w w' := by
  have hlen := hl.len
  subst hK
  cases A with
  | none =>
    obtain ⟨rfl, rfl⟩ := hl.nul rfl
    have e : l = [] := List.eq_nil_of_length_eq_zero hlen
    subst e
    exact ⟨w, _, run_copy_none (P := Tryd.prog) w nt nt ty ut _ none N cd 0 0 Tryd.underlying23 szL (Nat.zero_min _), by simpa using hB, Mds.refl _ _⟩
  | some ad =>
    have hcs : ((l.take N).map vL).length = Nat.min n N := by rw [List.length_map, List.length_take, hlen, Nat.min_comm]
    have hr := run_copy_row (P := Tryd.prog) w nt nt ty ut g 0 N cd ad n c (lv L) ut ((l.take N).map vL) Tryd.underlying23 szL hB.h hcs
      (fun j v hj => by
        have hp : 0 < n := by
          have h6 := (List.getElem?_eq_some_iff.1 hj).1
          rw [hcs] at h6
          have : Nat.min n N ≤ n := Nat.min_le_left _ _
          omega
        obtain ⟨ad', e1, hc⟩ := hl.news hp
        cases e1
        refine hc j v ?_
        rw [List.getElem?_map, List.getElem?_take] at hj
        rw [List.getElem?_map]
        split at hj
        · exact hj
        · cases hj)
      (by
        have : Nat.min n N ≤ N := Nat.min_le_right _ _
        rw [hcs, lv_size, hN]
        omega) (one_vL _)
    refine ⟨_, _, hr, ?_, setRow_mds _ _ _⟩
    have e2 : ((lv L).toList.take 0 ++ (l.take N).map vL ++ (lv L).toList.drop (0 + ((l.take N).map vL).length)).toArray = lv (l.take N ++ L.drop n) := by
      unfold lv
      rw [List.map_append, List.take_zero, List.nil_append, Nat.zero_add, hcs, List.map_drop]
      congr 2
      by_cases h : n ≤ N
      · rw [show Nat.min n N = n from Nat.min_eq_left h]
      · rw [show Nat.min n N = N from Nat.min_eq_right (by omega), List.drop_eq_nil_of_le (by simp; omega), List.drop_eq_nil_of_le (by simp; omega)]
    rw [e2]
    exact hB.row _
theorem wp_copy_of {P : Program} {w w' : World} {o : Oper} {a : Act} {K : Act → World → Prop} {Q : Exit → Act → World → Prop} (d s : Operand) (dT sT : TypeId)
    (ho : o.op = .call { callee := .builtin .copy, args := #[d, s], argTypes := #[dT, sT] }) (u v z : Value) (hd : a.eval d = u) (hs : a.eval s = v)
    (hr : (Builtin.copy_ #[dT, sT] o.type #[u, v]).run P w = .ok z w') (h : K (a.put o.dst z) w') : o.wp P a w K Q := by
  unfold Oper.wp
  simp [execOp, ho, resolve, invoke, builtin, hs, hd, hr, Result.andThen]
  exact h
theorem wpList_copy_L {w : World} {ops : Array Oper} {rest : List Oper} {o : Oper} {a : Act} {Q : Exit → Act → World → Prop} (hgd : o.guard = none) (d s : Operand)
    (ho : o.op = .call { callee := .builtin .copy, args := #[d, s], argTypes := #[nt, nt] }) (g n c N cd : Nat) (A : Option Addr) (L l K : List Nat)
    (hd : a.eval d = .slice (some ⟨g, 0, none⟩) N cd) (hs : a.eval s = .slice A n c) (hB : Lb w g L) (hN : L.length = N) (hl : Rd vL w A n c l) (hK : l.take N ++ L.drop n = K)
    (h : ∀ z w', Lb w' g K → Mds [g] w w' → wpList Tryd.prog ops Q rest (a.put o.dst z) w') : wpList Tryd.prog ops Q (o :: rest) a w :=
  wpList_plain hgd fun _ hK' => by
    obtain ⟨w', z, hr, h1, h2⟩ := run_copy_L o.type hB hN hl hK
    exact wp_copy_of d s nt nt ho _ _ z hd hs hr (hK' _ _ (h z w' h1 h2))
theorem FreshL.of_counted {w w1 : World} {l : List Nat} {A : Option Addr} {n c v : Nat} (h : Rw ut vL w1 w.heap.size (.slice A n c) n l) (hd : Dg BB l) (hn : n ≤ 4611686018427387904) (hv : vl BB l = v) (hx : Ext w w1) :
    Calls Tryd.prog 64 #[.slice A n c] w1 (FreshL w v) := by
  subst hv
  refine (counted_own h hd hn).mono ?_
  rintro e w' ⟨rfl, _, h2, rfl⟩
  exact ⟨A, _, c, rfl, h2, hx⟩
theorem vl_append0 (l : List Nat) (k : Nat) : vl BB (l ++ zl k) = vl BB l := by rw [vl_append, zl, vl_zeros, Nat.mul_zero, Nat.add_zero]
end Go.Proofs.YtfipgmjaabggjaaDoor
namespace Go.Proofs.YtfipgmjaabggjaaDoor
open Go Go.RowKit
set_option maxRecDepth 4000

theorem Lb.zeros {g : Nat} : ∀ (k : Nat) {w : World} {L : List Nat} (o : Nat), Lb w g L → ∃ L', Lb (w.setCells g o (List.replicate k (.int .u32 0))) g L' ∧ L'.length = L.length ∧ ∀ i, i < L.length → dg L' i = if o ≤ i ∧ i < o + k then 0 else dg L i
  | 0, w, L, o, h => ⟨L, h, rfl, fun i _ => by rw [if_neg (by omega)]⟩
  | k + 1, w, L, o, h => by
    obtain ⟨L', h1, h2, h3⟩ := Lb.zeros k (o + 1) (Lb.set h o 0)
    refine ⟨L', by rw [List.replicate_succ]; exact h1, by rw [h2, List.length_set], fun i hi => ?_⟩
    rw [h3 i (by rw [List.length_set]; exact hi)]
    by_cases ho : o < L.length
    · rw [dg_set _ _ _ _ ho]
      by_cases e1 : o + 1 ≤ i ∧ i < o + 1 + k
      · rw [if_pos e1, if_pos (by omega)]
      · rw [if_neg e1]
        by_cases e2 : i = o
        · rw [if_pos e2, if_pos (by omega)]
        · rw [if_neg e2, if_neg (by omega)]
    · rw [if_neg (by omega), if_neg (by omega), List.set_eq_of_length_le (by omega)]
theorem setCells_mds {g : Nat} : ∀ (vs : List Value) (w : World) (o : Nat), Mds [g] w (w.setCells g o vs)
  | [], w, _ => Mds.refl _ _
  | v :: r, w, o => ((Mds.refl [g] w).setCell (p := ⟨g, o, none⟩) (by simp) v).trans (setCells_mds r _ (o + 1))
theorem zero_u32 (w : World) : (zeroValue ut).run Tryd.prog w = .ok (.int .u32 0) w := by
  obtain ⟨i, hi, hz, _, _⟩ := info_parts inL
  simp [zeroValue, typeInfo, hi, hz]
/-- clear(a), a a block whole -/
theorem run_clear_L (ty : TypeId) {w : World} {g N c : Nat} {L : List Nat} (hB : Lb w g L) (hN : L.length = N) :
    ∃ w', (Builtin.clear_ #[nt] ty #[.slice (some ⟨g, 0, none⟩) N c]).run Tryd.prog w = .ok (.tuple #[]) w' ∧ Lb w' g (zl N) ∧ Mds [g] w w' := by
  rcases Nat.eq_zero_or_pos N with h0 | h0
  · subst h0
    have e : L = [] := List.eq_nil_of_length_eq_zero hN
    subst e
    exact ⟨w, by simp [Builtin.clear_, run_underlying Tryd.underlying23], hB, Mds.refl _ _⟩
  · have hr := Lib.run_clear_slice (P := Tryd.prog) w nt ut ty (.int .u32 0) Tryd.underlying23 zero_u32 rfl rfl g 0 N c h0
      (fun j hj => by rw [Nat.zero_add, Lb.cell hB j (by omega)]; rfl) (fun j _ => Lb.free hB (0 + j))
    obtain ⟨L', h1, h2, h3⟩ := Lb.zeros N 0 hB
    have e : L' = zl N := dg_ext (by rw [h2, zl_len, hN]) fun i hi => by rw [h3 i (by omega), if_pos (by omega), zl, dg_zeros]
    rw [e] at h1
    exact ⟨_, hr, h1, setCells_mds _ _ _⟩
/-- what a product in place leaves -/
def Mulled (w : World) (g : Nat) (a b : List Nat) (e : Ending) (w' : World) : Prop :=
  ∃ out, e = .returned (.tuple #[]) ∧ out.length = a.length + b.length ∧ Dg BB out ∧ vl BB out = vl BB a * vl BB b ∧ Lb w' g out ∧ Mds [g] w w'
theorem run_fromL (g n c k : Nat) (x : Int) (hx : x = (k : Int)) (hk : k < n) (hn : n ≤ c) (w : World) :
    (Instr.sliceAt nt (.slice (some ⟨g, 0, none⟩) n c) (some (.int .i64 x)) none none).run Tryd.prog w = .ok (.slice (some ⟨g, k, none⟩) (n - k) (c - k)) w := by
  rw [run_from (P := Tryd.prog) (some ⟨g, 0, none⟩) n c nt ut Tryd.underlying23 szL k x hx (by omega) w, if_neg (by omega)]
  have : (⟨g, 0, none⟩ : Addr).add k = ⟨g, k, none⟩ := by unfold Addr.add; split <;> simp_all
  rw [Option.map_some, this]
end Go.Proofs.YtfipgmjaabggjaaDoor
namespace Go.Proofs.YtfipgmjaabggjaaDoor
open Go Go.RowKit
set_option maxRecDepth 4000

theorem sum_room {B va vb vo cr k j : Nat} (hB : 2 ≤ B) (ha : va < B ^ k) (hb : vb < B ^ j) (hjk : j ≤ k) (hcr : cr ≤ 1) (hv : vo + B ^ (k + 1) * cr = va + vb) : vo = va + vb := by
  have h3 : B ^ j ≤ B ^ k := Nat.pow_le_pow_right (by omega) hjk
  rw [Nat.pow_succ] at hv
  rcases Nat.eq_zero_or_pos cr with h | h
  · subst h
    omega
  · obtain rfl : cr = 1 := by omega
    rw [Nat.mul_one] at hv
    have h4 : B ^ k * 2 ≤ B ^ k * B := Nat.mul_le_mul_left _ hB
    omega
end Go.Proofs.YtfipgmjaabggjaaDoor
namespace Go.Proofs.YtfipgmjaabggjaaDoor
open Go Go.RowKit
set_option maxRecDepth 4000

theorem or64 (x y : Nat) (hx : x < 18446744073709551616) (hy : y < 18446744073709551616) : bits .or .u64 (x : Int) (y : Int) = ((x ||| y : Nat) : Int) := by
  show IntKind.u64.wrap ((BitVec.ofInt 64 (x : Int) ||| BitVec.ofInt 64 (y : Int)).toNat : Int) = _
  rw [BitVec.ofInt_natCast, BitVec.ofInt_natCast, BitVec.toNat_or, BitVec.toNat_ofNat, BitVec.toNat_ofNat, Nat.mod_eq_of_lt hx, Nat.mod_eq_of_lt hy, IntKind.wrap_u64]
  have : x ||| y < 2 ^ 64 := Nat.or_lt_two_pow hx hy
  omega
/-- two numbers of which one ends where the other one begins -/
theorem or_add (y x c : Nat) (hc : c < 2 ^ x) : y * 2 ^ x ||| c = y * 2 ^ x + c := by
  rw [Nat.mul_comm, Nat.two_pow_add_eq_or_of_lt hc]
theorem or_up (y x c : Nat) (hy : y < 4294967296) (hx : x ≤ 32) (hc : c < 2 ^ x) : bits .or .u64 (IntKind.u64.wrap ((y : Int) * 2 ^ x)) (c : Int) = ((y * 2 ^ x + c : Nat) : Int) ∧ y * 2 ^ x + c < 18446744073709551616 := by
  have h1 : (2 : Nat) ^ x ≤ 4294967296 := Nat.pow_le_pow_right (n := 2) (by decide) hx
  have h2 : (y + 1) * 2 ^ x ≤ 4294967296 * 4294967296 := Nat.mul_le_mul hy h1
  rw [Nat.add_mul, Nat.one_mul] at h2
  have e : ((y : Int) * 2 ^ x) = ((y * 2 ^ x : Nat) : Int) := by simp
  have h3 : y * 2 ^ x + c < 18446744073709551616 := by omega
  refine ⟨?_, h3⟩
  rw [e, IntKind.wrap_u64, show ((y * 2 ^ x : Nat) : Int) % 18446744073709551616 = ((y * 2 ^ x : Nat) : Int) by omega, or64 _ _ (by omega) (by omega), or_add y x c hc]
/-- what a number shifted up leaves: a block of its own, whole -/
def Upped (w : World) (N v : Nat) (e : Ending) (w' : World) : Prop :=
  ∃ out, e = .returned (.slice (some ⟨w.heap.size, 0, none⟩) N N) ∧ out.length = N ∧ Dg BB out ∧ vl BB out = v ∧ Lb w' w.heap.size out ∧ Ext w w'
end Go.Proofs.YtfipgmjaabggjaaDoor
