/-
  nat: rows of limbs copied and cleared; sum and difference.
  nat: multiply, product.
  nat: sum.
  nat: product, shiftUp.
-/
import Derived.Test.YtkdjhklnlnfhfaaGreatDoorM16
import Derived.Laws.CopyRow
import Derived.Lib.SliceRun
namespace Go.Proofs.YtkdjhklnlnfhfaaGreatDoor
open Go Go.RowKit
set_option maxRecDepth 4000

theorem one_vL (l : List Nat) : ∀ v ∈ l.map vL, v.oneCell' = true := fun v hv => by
  obtain ⟨b, _, rfl⟩ := List.mem_map.1 hv
  rfl
theorem setRow_mds (w : World) (g : Nat) (cs : Array Value) : Mds [g] w (w.setRow g cs) :=
  ⟨rfl, rfl, rfl, by simp, fun k _ hk => setRow_other w g k cs (by simpa using hk)⟩
/-- copy(a, b), a a block whole -/
theorem run_copy_L (ty : TypeId) {w : World} {g n c N cd : Nat} {A : Option Addr} {L l K : List Nat} (hB : Lb w g L) (hN : L.length = N) (hl : Rd vL w A n c l) (hK : l.take N ++ L.drop n = K) :
    ∃ w' z, (Builtin.copy_ #[nt, nt] ty #[.slice (some ⟨g, 0, none⟩) N cd, .slice A n c]).run Tryz.prog w = .ok z w' ∧ Lb w' g K ∧ Mds [g] w w' := by
  have hlen := hl.len
  subst hK
  cases A with
  | none =>
    obtain ⟨rfl, rfl⟩ := hl.nul rfl
    have e : l = [] := List.eq_nil_of_length_eq_zero hlen
    subst e
    exact ⟨w, _, run_copy_none (P := Tryz.prog) w nt nt ty ut _ none N cd 0 0 Tryz.underlying23 szL (Nat.zero_min _), by simpa using hB, Mds.refl _ _⟩
  | some ad =>
    have hcs : ((l.take N).map vL).length = Nat.min n N := by rw [List.length_map, List.length_take, hlen, Nat.min_comm]
    have hr := run_copy_row (P := Tryz.prog) w nt nt ty ut g 0 N cd ad n c (lv L) ut ((l.take N).map vL) Tryz.underlying23 szL hB.h hcs
      (fun j v hj => by
        have hp : 0 < n := by
          have h6 := (List.getElem?_eq_some_iff.1 hj).1
          rw [hcs] at h6
          have : Nat.min n N ≤ n := Nat.min_le_left _ _
          omega
        obtain ⟨ad', e1, hc⟩ := hl.news hp
        cases e1
        refine hc j v ?_
        rw [List.getElem?_map, List.getElem?_take] at hj
        rw [List.getElem?_map]
        split at hj
        · exact hj
        · cases hj)
      (by
        have : Nat.min n N ≤ N := Nat.min_le_right _ _
        rw [hcs, lv_size, hN]
        omega) (one_vL _)
    refine ⟨_, _, hr, ?_, setRow_mds _ _ _⟩
    have e2 : ((lv L).toList.take 0 ++ (l.take N).map vL ++ (lv L).toList.drop (0 + ((l.take N).map vL).length)).toArray = lv (l.take N ++ L.drop n) := by
      unfold lv
      rw [List.map_append, List.take_zero, List.nil_append, Nat.zero_add, hcs, List.map_drop]
      congr 2
      by_cases h : n ≤ N
      · rw [show Nat.min n N = n from Nat.min_eq_left h]
      · rw [show Nat.min n N = N from Nat.min_eq_right (by omega), List.drop_eq_nil_of_le (by simp; omega), List.drop_eq_nil_of_le (by simp; omega)]
    rw [e2]
    exact hB.row _
theorem wp_copy_of {P : Program} {w w' : World} {o : Oper} {a : Act} {K : Act → World → Prop} {Q : Exit → Act → World → Prop} (d s : Operand) (dT sT : TypeId)
    (ho : o.op = .call { callee := .builtin .copy, args := #[d, s], argTypes := #[dT, sT] }) (u v z : Value) (hd : a.eval d = u) (hs : a.eval s = v)
    (hr : (Builtin.copy_ #[dT, sT] o.type #[u, v]).run P w = .ok z w') (h : K (a.put o.dst z) w') : o.wp P a w K Q := by
  unfold Oper.wp
  simp [execOp, ho, resolve, invoke, builtin, hs, hd, hr, Result.andThen]
  exact h
theorem wpList_copy_L {w : World} {ops : Array Oper} {rest : List Oper} {o : Oper} {a : Act} {Q : Exit → Act → World → Prop} (hgd : o.guard = none) (d s : Operand)
    (ho : o.op = .call { callee := .builtin .copy, args := #[d, s], argTypes := #[nt, nt] }) (g n c N cd : Nat) (A : Option Addr) (L l K : List Nat)
    (hd : a.eval d = .slice (some ⟨g, 0, none⟩) N cd) (hs : a.eval s = .slice A n c) (hB : Lb w g L) (hN : L.length = N) (hl : Rd vL w A n c l) (hK : l.take N ++ L.drop n = K)
    (h : ∀ z w', Lb w' g K → Mds [g] w w' → wpList Tryz.prog ops Q rest (a.put o.dst z) w') : wpList Tryz.prog ops Q (o :: rest) a w :=
  wpList_plain hgd fun _ hK' => by
    obtain ⟨w', z, hr, h1, h2⟩ := run_copy_L o.type hB hN hl hK
    exact wp_copy_of d s nt nt ho _ _ z hd hs hr (hK' _ _ (h z w' h1 h2))
theorem FreshL.of_counted {w w1 : World} {l : List Nat} {A : Option Addr} {n c v : Nat} (h : Rw ut vL w1 w.heap.size (.slice A n c) n l) (hd : Dg BB l) (hn : n ≤ 4611686018427387904) (hv : vl BB l = v) (hx : Ext w w1) :
    Calls Tryz.prog 165 #[.slice A n c] w1 (FreshL w v) := by
  subst hv
  refine (counted_own h hd hn).mono ?_
  rintro e w' ⟨rfl, _, h2, rfl⟩
  exact ⟨A, _, c, rfl, h2, hx⟩
theorem vl_append0 (l : List Nat) (k : Nat) : vl BB (l ++ zl k) = vl BB l := by rw [vl_append, zl, vl_zeros, Nat.mul_zero, Nat.add_zero]
end Go.Proofs.YtkdjhklnlnfhfaaGreatDoor
namespace Go.Proofs.YtkdjhklnlnfhfaaGreatDoor
open Go Go.RowKit
set_option maxRecDepth 4000

theorem Lb.zeros {g : Nat} : ∀ (k : Nat) {w : World} {L : List Nat} (o : Nat), Lb w g L → ∃ L', Lb (w.setCells g o (List.replicate k (.int .u32 0))) g L' ∧ L'.length = L.length ∧ ∀ i, i < L.length → dg L' i = if o ≤ i ∧ i < o + k then 0 else dg L i
  | 0, w, L, o, h => ⟨L, h, rfl, fun i _ => by rw [if_neg (by omega)]⟩
  | k + 1, w, L, o, h => by
    obtain ⟨L', h1, h2, h3⟩ := Lb.zeros k (o + 1) (Lb.set h o 0)
    refine ⟨L', by rw [List.replicate_succ]; exact h1, by rw [h2, List.length_set], fun i hi => ?_⟩
    rw [h3 i (by rw [List.length_set]; exact hi)]
    by_cases ho : o < L.length
    · rw [dg_set _ _ _ _ ho]
      by_cases e1 : o + 1 ≤ i ∧ i < o + 1 + k
      · rw [if_pos e1, if_pos (by omega)]
      · rw [if_neg e1]
        by_cases e2 : i = o
        · rw [if_pos e2, if_pos (by omega)]
        · rw [if_neg e2, if_neg (by omega)]
    · rw [if_neg (by omega), if_neg (by omega), List.set_eq_of_length_le (by omega)]
theorem setCells_mds {g : Nat} : ∀ (vs : List Value) (w : World) (o : Nat), Mds [g] w (w.setCells g o vs)
  | [], w, _ => Mds.refl _ _
  | v :: r, w, o => ((Mds.refl [g] w).setCell (p := ⟨g, o, none⟩) (by simp) v).trans (setCells_mds r _ (o + 1))
theorem zero_u32 (w : World) : (zeroValue ut).run Tryz.prog w = .ok (.int .u32 0) w := by
  obtain ⟨i, hi, hz, _, _⟩ := info_parts inL
  simp [zeroValue, typeInfo, hi, hz]
/-- clear(a), a a block whole -/
theorem run_clear_L (ty : TypeId) {w : World} {g N c : Nat} {L : List Nat} (hB : Lb w g L) (hN : L.length = N) :
    ∃ w', (Builtin.clear_ #[nt] ty #[.slice (some ⟨g, 0, none⟩) N c]).run Tryz.prog w = .ok (.tuple #[]) w' ∧ Lb w' g (zl N) ∧ Mds [g] w w' := by
  rcases Nat.eq_zero_or_pos N with h0 | h0
  · subst h0
    have e : L = [] := List.eq_nil_of_length_eq_zero hN
    subst e
    exact ⟨w, by simp [Builtin.clear_, run_underlying Tryz.underlying23], hB, Mds.refl _ _⟩
  · have hr := Lib.run_clear_slice (P := Tryz.prog) w nt ut ty (.int .u32 0) Tryz.underlying23 zero_u32 rfl rfl g 0 N c h0
      (fun j hj => by rw [Nat.zero_add, Lb.cell hB j (by omega)]; rfl) (fun j _ => Lb.free hB (0 + j))
    obtain ⟨L', h1, h2, h3⟩ := Lb.zeros N 0 hB
    have e : L' = zl N := dg_ext (by rw [h2, zl_len, hN]) fun i hi => by rw [h3 i (by omega), if_pos (by omega), zl, dg_zeros]
    rw [e] at h1
    exact ⟨_, hr, h1, setCells_mds _ _ _⟩
/-- what a product in place leaves -/
def Mulled (w : World) (g : Nat) (a b : List Nat) (e : Ending) (w' : World) : Prop :=
  ∃ out, e = .returned (.tuple #[]) ∧ out.length = a.length + b.length ∧ Dg BB out ∧ vl BB out = vl BB a * vl BB b ∧ Lb w' g out ∧ Mds [g] w w'
theorem run_fromL (g n c k : Nat) (x : Int) (hx : x = (k : Int)) (hk : k < n) (hn : n ≤ c) (w : World) :
    (Instr.sliceAt nt (.slice (some ⟨g, 0, none⟩) n c) (some (.int .i64 x)) none none).run Tryz.prog w = .ok (.slice (some ⟨g, k, none⟩) (n - k) (c - k)) w := by
  rw [run_from (P := Tryz.prog) (some ⟨g, 0, none⟩) n c nt ut Tryz.underlying23 szL k x hx (by omega) w, if_neg (by omega)]
  have : (⟨g, 0, none⟩ : Addr).add k = ⟨g, k, none⟩ := by unfold Addr.add; split <;> simp_all
  rw [Option.map_some, this]
set_option maxHeartbeats 2000000 in
theorem multiply_any {a b L : List Nat} {g n c m d N cN : Nat} {A B : Option Addr} {w : World} (hL0 : Lb w g L) (hN : L.length = N) (hNm : N = n + m) (hc : N ≤ cN) (ha : Rd vL w A n c a) (hb : Rd vL w B m d b) (hoa : 0 < n → Out A [g]) (hob : 0 < m → Out B [g])
    (da : Dg BB a) (db : Dg BB b) (hlim : N ≤ 1000000000000) :
    Calls Tryz.prog 241 #[.slice (some ⟨g, 0, none⟩) N cN, .slice A n c, .slice B m d] w (Mulled w g a b) := by
  have hla := ha.len
  have hlb := hb.len
  have HA := Kp.mk ha
  have HB := Kp.mk hb
  have DA := Kp.mk da
  have DB := Kp.mk db
  obtain ⟨w0, hcl, hL1, hm1⟩ := run_clear_L (c := cN) 0 hL0 hN
  have hst := MulS.start (B := BB) (by decide) a b
  rw [hla, hlb, ← hNm] at hst
  have HST := Kp.mk hst
  have HL1 := Kp.mk hL1
  have HM1 := Kp.mk hm1
  have HNN := Kp.mk hNm
  have hmb : m ≤ 1000000000000 := by omega
  have hnb : n ≤ 1000000000000 := by omega
  clear ha hb da db hst hL1 hm1 hL0 hN hNm
  go_enter Tryz.func241, Tryz.ntmps241
  go_wp2_with fail

  go_loopw [15] (fun iv wr => ∃ i : Nat, ∃ out : List Nat, i ≤ n ∧ iv = .int .i64 (i : Int) ∧ MulS BB a b i out ∧ Lb wr g out ∧ Mds [g] w wr) (fun i _ => n - (intOf i).toNat)
  case atStart => exact ⟨0, _, by omega, rfl, HST.out, HL1.out, HM1.out⟩
  case round =>
    obtain ⟨i, out, hi, rfl, hs, ho, hx⟩ := hrel
    have hNn := HNN.out
    by_cases hlt : i < n
    · have b0 : (i : Int) < (n : Int) := by omega
      have he := hs.enter (by decide)
      have hs1 := run_fromL g N cN i (i : Int) rfl (by omega) (by omega)
      have hs2 := fun W => run_upto (P := Tryz.prog) (some ⟨g, i, none⟩) (N - i) (cN - i) nt ut Tryz.underlying23 szL m (m : Int) rfl (by omega) W
      obtain ⟨gA, oA, rfl⟩ := HA.out.some_ (by omega)
      have k1 := (HA.out.mds hx hoa).dig i hlt
      unfold vL at k1
      have h1 := DA.out.at32 i
      clear hs
      obtain ⟨x, hxx⟩ : ∃ x, x = dg a i := ⟨_, rfl⟩
      have HXX := Kp.mk hxx
      rw [← hxx] at k1 h1
      clear hxx hNn
      go_wp2_with fail
      go_loopw [9, 31] (fun cv kv wq => ∃ q k : Nat, ∃ out : List Nat, k ≤ m ∧ kv = .int .i64 (k : Int) ∧ cv = .int .u64 (q : Int) ∧ MulT BB a b i k out q ∧ Lb wq g out ∧ Mds [g] w wq) (fun _ k _ => m - (intOf k).toNat)
      case atStart => exact ⟨0, 0, out, by omega, rfl, rfl, he, ho, hx⟩
      case round =>
        clear he ho hx
        obtain ⟨q, k, out, hk, rfl, rfl, hs, ho, hx⟩ := hrel
        have hNn := HNN.out
        have hol := hs.len
        by_cases hlk : k < m
        · obtain ⟨g2, o2, rfl⟩ := HB.out.some_ (by omega)
          have d0 : (k : Int) < (m : Int) := by omega
          have k2 := (HB.out.mds hx hob).dig k hlk
          unfold vL at k2
          have k3 := Lb.cell ho (i + k) (by omega)
          have k4 := Lb.free ho (i + k)
          have h2 := DB.out.at32 k
          have h3 := hs.d.at32 (i + k)
          have h4 : q < 4294967296 := hs.cr
          have HNX := Kp.mk (hs.next DA.out DB.out (by decide) (by omega) (by omega))
          have HO := Kp.mk ho
          have HX := Kp.mk hx
          rw [← HXX.out] at HNX
          generalize dg b k = y at *
          generalize dg out (i + k) = z at *
          have hp : x * y ≤ 4294967295 * 4294967295 := Nat.mul_le_mul (by omega) (by omega)
          obtain ⟨p, hpp⟩ : ∃ p, x * y = p := ⟨_, rfl⟩
          have e0 : (x : Int) * (y : Int) = (p : Int) := by rw [← hpp]; exact (Int.natCast_mul x y).symm
          rw [hpp] at hp HNX
          have e1 : IntKind.u64.wrap (p : Int) = (p : Int) := by rw [IntKind.wrap_u64]; omega
          have ey : IntKind.u64.wrap (y : Int) = (y : Int) := by rw [IntKind.wrap_u64]; omega
          have ez : IntKind.u64.wrap (z : Int) = (z : Int) := by rw [IntKind.wrap_u64]; omega
          obtain ⟨s, hss⟩ : ∃ s, q + p + z = s := ⟨_, rfl⟩
          have e2 : IntKind.u64.wrap ((p : Int) + (z : Int)) = (p : Int) + (z : Int) := by rw [IntKind.wrap_u64]; omega
          have e3 : IntKind.u64.wrap ((p : Int) + (z : Int) + (q : Int)) = (s : Int) := by rw [IntKind.wrap_u64]; omega
          have d3 : (s : Int) < 18446744073709551616 := by omega
          rw [hss] at HNX
          clear hpp hss hs ho hx h1 h2 h3 h4 hp hNn hol
          go_wp2_with fail
          go_region
          go_wp2_with fail
          go_roundw
          case rel =>
            refine ⟨s / 4294967296, k + 1, _, by omega, by go_num, by go_num, HNX.out, ?_, (HX.out.setCell (p := ⟨g, i + k, none⟩) (by simp) _).drew⟩
            rw [show ((s : Int) % 4294967296) = ((s % 4294967296 : Nat) : Int) by omega]
            exact (Lb.set HO.out (i + k) (s % 4294967296)).ext (Ext.refl _).drew
          case measure => simp [intOf]; omega
        · obtain rfl : k = m := by omega
          have hl : MulS BB a b (i + 1) (out.set (i + k) q) := by
            have h := hs
            rw [← hlb] at h
            have h2 := h.leave (by omega)
            rwa [hlb] at h2
          have k4 := Lb.free ho (i + k)
          have HL := Kp.mk hl
          have HO := Kp.mk ho
          have HX := Kp.mk hx
          have h4 : q < 4294967296 := hs.cr
          have e4 : IntKind.u32.wrap (q : Int) = (q : Int) := by rw [IntKind.wrap_u32]; omega
          have k3 := Lb.cell ho (i + k) (by omega)
          have d2 : (i : Int) + (k : Int) < (N : Int) := by omega
          clear hs ho hx hl hNn hol
          go_wp2_with fail
          go_roundw
          case rel => exact ⟨i + 1, _, by omega, by go_num, HL.out, Lb.set HO.out (i + k) q, HX.out.setCell (p := ⟨g, i + k, none⟩) (by simp) _⟩
          case measure => simp [intOf]; omega
    · obtain rfl : i = n := by omega
      have hv : vl BB out = vl BB a * vl BB b := by
        have h := hs
        rw [← hla] at h
        exact h.done
      have HF := Kp.mk (show Mulled w g a b (.returned (.tuple #[])) wr from ⟨out, rfl, hs.len, hs.d, hv, ho, hx⟩)
      clear hs ho hx hv hNn
      go_wp2_with fail
      go_end0
      exact HF.out
end Go.Proofs.YtkdjhklnlnfhfaaGreatDoor
namespace Go.Proofs.YtkdjhklnlnfhfaaGreatDoor
open Go Go.RowKit
set_option maxRecDepth 4000

theorem sum_room {B va vb vo cr k j : Nat} (hB : 2 ≤ B) (ha : va < B ^ k) (hb : vb < B ^ j) (hjk : j ≤ k) (hcr : cr ≤ 1) (hv : vo + B ^ (k + 1) * cr = va + vb) : vo = va + vb := by
  have h3 : B ^ j ≤ B ^ k := Nat.pow_le_pow_right (by omega) hjk
  rw [Nat.pow_succ] at hv
  rcases Nat.eq_zero_or_pos cr with h | h
  · subst h
    omega
  · obtain rfl : cr = 1 := by omega
    rw [Nat.mul_one] at hv
    have h4 : B ^ k * 2 ≤ B ^ k * B := Nat.mul_le_mul_left _ hB
    omega
end Go.Proofs.YtkdjhklnlnfhfaaGreatDoor
namespace Go.Proofs.YtkdjhklnlnfhfaaGreatDoor
open Go Go.RowKit
set_option maxRecDepth 4000

theorem or64 (x y : Nat) (hx : x < 18446744073709551616) (hy : y < 18446744073709551616) : bits .or .u64 (x : Int) (y : Int) = ((x ||| y : Nat) : Int) := by
  show IntKind.u64.wrap ((BitVec.ofInt 64 (x : Int) ||| BitVec.ofInt 64 (y : Int)).toNat : Int) = _
  rw [BitVec.ofInt_natCast, BitVec.ofInt_natCast, BitVec.toNat_or, BitVec.toNat_ofNat, BitVec.toNat_ofNat, Nat.mod_eq_of_lt hx, Nat.mod_eq_of_lt hy, IntKind.wrap_u64]
  have : x ||| y < 2 ^ 64 := Nat.or_lt_two_pow hx hy
  omega
/-- two numbers of which one ends where the other one begins -/
theorem or_add (y x c : Nat) (hc : c < 2 ^ x) : y * 2 ^ x ||| c = y * 2 ^ x + c := by
  rw [Nat.mul_comm, Nat.two_pow_add_eq_or_of_lt hc]
theorem or_up (y x c : Nat) (hy : y < 4294967296) (hx : x ≤ 32) (hc : c < 2 ^ x) : bits .or .u64 (IntKind.u64.wrap ((y : Int) * 2 ^ x)) (c : Int) = ((y * 2 ^ x + c : Nat) : Int) ∧ y * 2 ^ x + c < 18446744073709551616 := by
  have h1 : (2 : Nat) ^ x ≤ 4294967296 := Nat.pow_le_pow_right (n := 2) (by decide) hx
  have h2 : (y + 1) * 2 ^ x ≤ 4294967296 * 4294967296 := Nat.mul_le_mul hy h1
  rw [Nat.add_mul, Nat.one_mul] at h2
  have e : ((y : Int) * 2 ^ x) = ((y * 2 ^ x : Nat) : Int) := by simp
  have h3 : y * 2 ^ x + c < 18446744073709551616 := by omega
  refine ⟨?_, h3⟩
  rw [e, IntKind.wrap_u64, show ((y * 2 ^ x : Nat) : Int) % 18446744073709551616 = ((y * 2 ^ x : Nat) : Int) by omega, or64 _ _ (by omega) (by omega), or_add y x c hc]
/-- what a number shifted up leaves: a block of its own, whole -/
def Upped (w : World) (N v : Nat) (e : Ending) (w' : World) : Prop :=
  ∃ out, e = .returned (.slice (some ⟨w.heap.size, 0, none⟩) N N) ∧ out.length = N ∧ Dg BB out ∧ vl BB out = v ∧ Lb w' w.heap.size out ∧ Ext w w'
set_option maxHeartbeats 2000000 in
theorem shiftUp_any {a : List Nat} {A : Option Addr} {n c k s x : Nat} {w : World} (ha : Rd vL w A n c a) (da : Dg BB a) (hs : s = 32 * k + x) (hx : x < 32) (hn : n ≤ 1000000000) (hk : k ≤ 1) :
    Calls Tryz.prog 213 #[.slice A n c, .int .i64 (s : Int)] w (Upped w (n + k + 1) (vl BB a * 2 ^ s)) := by
  have hla := ha.len
  obtain ⟨N, hN⟩ : ∃ N, N = n + k + 1 := ⟨_, rfl⟩
  have hmk := run_makeL N ((n : Int) + (k : Int) + 1) (by omega) (by omega)
  have HM := Kp.mk (Lb.new w (zl N))
  have HXM := Kp.mk (show Ext w (w.alloc (.cells (lv (zl N)) ut)) from (by (repeat (first | assumption | exact Ext.refl _ | apply Ext.drew | apply Ext.drewN | apply Ext.alloc | refine Ext.trans ?_ (by assumption))); first | done | fail))
  have hst := ShU.start a k x
  rw [hla, ← hN, show List.replicate N 0 = zl N from rfl] at hst
  have HST := Kp.mk hst
  have HA := Kp.mk ha
  have DA := Kp.mk da
  have q1 : (s : Int) / 32 = (k : Int) := by omega
  have q2 : (s : Int) % 32 = (x : Int) := by omega
  have hsb : (s : Int) < 100 := by omega
  rw [← hN]
  have HN := Kp.mk hN
  have HS := Kp.mk hs
  have hNb : N ≤ 1000000010 := by omega
  clear ha da hst hN hs
  generalize zl N = Z at *
  go_enter Tryz.func213, Tryz.ntmps213
  go_wp2_with fail
  go_loopw [8, 23] (fun cv iv wr => ∃ i : Nat, ∃ cr : Nat, ∃ out : List Nat, i ≤ n ∧ iv = .int .i64 (i : Int) ∧ cv = .int .u64 (cr : Int) ∧ ShU a k x i out cr ∧ Lb wr w.heap.size out ∧ Ext w wr) (fun _ i _ => n - (intOf i).toNat)
  case atStart => exact ⟨0, 0, Z, by omega, rfl, rfl, HST.out, HM.out, HXM.out⟩
  case round =>
    obtain ⟨i, cr, out, hi, rfl, rfl, hs, hL, hxx⟩ := hrel
    have hol := hs.len
    by_cases hlt : i < n
    · have b0 : (i : Int) < (n : Int) := by omega
      obtain ⟨g2, o2, rfl⟩ := HA.out.some_ (by omega)
      have k2 := (HA.out.ext hxx).dig i hlt
      unfold vL at k2
      have hNN := HN.out
      have k4 := Lb.free hL (k + i)
      have k3 := Lb.cell hL (k + i) (by omega)
      have h1 := DA.out.at32 i
      have h3 := hs.cr
      have HNX := Kp.mk (hs.next DA.out (by omega))
      have HL := Kp.mk (fun y => Lb.set hL (k + i) y)
      have HX := Kp.mk hxx
      obtain ⟨e1, e2⟩ := or_up (dg a i) x cr h1 (by omega) h3
      have HP := Kp.mk (And.intro e2 (show cr < 4294967296 from Nat.lt_of_lt_of_le h3 (Nat.pow_le_pow_right (n := 2) (by decide) (show x ≤ 32 by omega))))
      generalize dg a i = y at *
      generalize y * 2 ^ x + cr = T at *
      have d2 : (k : Int) + (i : Int) < (N : Int) := by omega
      have d3 : (k : Int) + (i : Int) < 9223372036854775807 := by omega
      clear hs hL hxx hNN h3
      go_wp2_with fail
      go_roundw
      case rel =>
        rw [show ((T : Int) % 4294967296) = ((T % 4294967296 : Nat) : Int) by omega]
        exact ⟨i + 1, T / 4294967296, _, by omega, by go_num, by go_num, HNX.out, HL.out _, HX.out.setCell (p := ⟨w.heap.size, k + i, none⟩) (Nat.le_refl _) _⟩
      case measure => simp [intOf]; omega
    · obtain rfl : i = n := by omega
      have hd : vl BB (out.set (k + i) cr) = vl BB a * 2 ^ (32 * k + x) ∧ Dg BB (out.set (k + i) cr) := by
        have h := hs
        rw [← hla] at h
        have h2 := h.done hx
        rwa [hla] at h2
      have hNN := HN.out
      have k4 := Lb.free hL (k + i)
      have k3 := Lb.cell hL (k + i) (by omega)
      have h4 : cr < 4294967296 := Nat.lt_of_lt_of_le hs.cr (Nat.pow_le_pow_right (n := 2) (by decide) (show x ≤ 32 by omega))
      have e4 : IntKind.u32.wrap (cr : Int) = (cr : Int) := by rw [IntKind.wrap_u32]; omega
      have d2 : (k : Int) + (i : Int) < (N : Int) := by omega
      have d3 : (k : Int) + (i : Int) < 9223372036854775807 := by omega
      have HF := Kp.mk (show Upped w N (vl BB a * 2 ^ s) (.returned (.slice (some ⟨w.heap.size, 0, none⟩) N N)) (wr.setCell ⟨w.heap.size, k + i, none⟩ (.int .u32 (cr : Int))) from
        ⟨_, rfl, by rw [List.length_set]; omega, hd.2, by rw [hd.1, HS.out], Lb.set hL (k + i) cr, hxx.setCell (p := ⟨w.heap.size, k + i, none⟩) (Nat.le_refl _) _⟩)
      clear hs hL hxx hNN hd
      go_wp2_with fail
      go_ret
      exact HF.out
end Go.Proofs.YtkdjhklnlnfhfaaGreatDoor
