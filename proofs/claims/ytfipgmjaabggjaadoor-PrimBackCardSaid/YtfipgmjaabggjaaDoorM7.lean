/-
  nat: headroom, shiftDown.
  nat: guess.
  nat: reduce.
  nat: divide.
-/
import Derived.Test.YtfipgmjaabggjaaDoorM6
namespace Go.Proofs.YtfipgmjaabggjaaDoor
open Go Go.RowKit
set_option maxRecDepth 4000

theorem or_down (y z : Nat) (hy : y < 4294967296) (hz : z < 4294967296) : bits .or .u64 (y : Int) (IntKind.u64.wrap ((z : Int) * 4294967296)) = ((y + 4294967296 * z : Nat) : Int) := by
  rw [IntKind.wrap_u64, show (z : Int) * 4294967296 % 18446744073709551616 = ((z * 2 ^ 32 : Nat) : Int) by omega, or64 _ _ (by omega) (by omega), Nat.or_comm, or_add z 32 y hy]
  omega
theorem or_down' (y z : Nat) (hy : y < 4294967296) (hz : z < 4294967296) : bits .or .u64 (y : Int) ((z : Int) * 4294967296) = ((y + 4294967296 * z : Nat) : Int) := by
  rw [← or_down y z hy hz, IntKind.wrap_u64, Int.emod_eq_of_lt (by omega) (by omega)]
end Go.Proofs.YtfipgmjaabggjaaDoor
namespace Go.Proofs.YtfipgmjaabggjaaDoor
open Go Go.RowKit
set_option maxRecDepth 4000

theorem or_up32 (y c : Nat) (hy : y < 4294967296) (hc : c < 4294967296) : bits .or .u64 ((y : Int) * 4294967296) (c : Int) = ((y * 4294967296 + c : Nat) : Int) := by
  obtain ⟨h1, _⟩ := or_up y 32 c hy (by omega) hc
  rw [show ((y : Int) * 2 ^ 32) = (y : Int) * 4294967296 by rfl, IntKind.wrap_u64, Int.emod_eq_of_lt (by omega) (by omega)] at h1
  exact h1
end Go.Proofs.YtfipgmjaabggjaaDoor
namespace Go.Proofs.YtfipgmjaabggjaaDoor
open Go Go.RowKit
set_option maxRecDepth 4000

theorem run_midL (g n c i k : Nat) (x y : Int) (hx : x = (i : Int)) (hy : y = ((i + k : Nat) : Int)) (hk : i + k ≤ n) (hn : n ≤ c) (h0 : 0 < k) (w : World) :
    (Instr.sliceAt nt (.slice (some ⟨g, 0, none⟩) n c) (some (.int .i64 x)) (some (.int .i64 y)) none).run Tryd.prog w = .ok (.slice (some ⟨g, i, none⟩) k (c - i)) w := by
  subst hx hy
  have hadd : (⟨g, 0, none⟩ : Addr).add i = ⟨g, i, none⟩ := by unfold Addr.add; split <;> simp_all
  have hs := szL
  cases hq : Tryd.prog.info? ut with
  | none => simp [hq] at hs
  | some j =>
    have hs1 : j.size = 1 := by simpa [hq] using hs
    have e1 : 0 ≤ (i : Int) + (k : Int) := by omega
    have e2 : (i : Int) + (k : Int) ≤ c := by omega
    have e3 : ((i : Int) + (k : Int)).toNat = i + k := by omega
    have e4 : ¬ c = i := by omega
    simp [Instr.sliceAt, Instr.slice, run_underlying Tryd.underlying23, Instr.sliceBounds, Instr.sliceBound, asIntOf, sizeOf, typeInfo, hq, hs1, e1, e2, e3, e4, hadd]
/-- what is left, and how often -/
def Reduced (w : World) (g gt N K V vb : Nat) (e : Ending) (w' : World) : Prop :=
  ∃ L T, e = .returned (.tuple #[]) ∧ L.length = N ∧ T.length = K ∧ Dg BB L ∧ Dg BB T ∧ vl BB T = V / vb ∧ vl BB L = V % vb ∧ Lb w' g L ∧ Lb w' gt T ∧ Mds [g, gt] w w'
structure RedW (w : World) (g gt N K V vb i : Nat) (L T : List Nat) (wr : World) : Prop where
  ll : L.length = N
  tl : T.length = K
  dl : Dg BB L
  dt : Dg BB T
  r : RedS BB V vb (K - i) L T
  bl : Lb wr g L
  bt : Lb wr gt T
  x : Mds [g, gt] w wr
theorem RedW.next {w wr w3 : World} {g gt N K V vb i p m t : Nat} {L T out : List Nat} (hr : RedW w g gt N K V vb i L T wr) (hi : i < K) (hp : p = K - i - 1) (hK : K = N - m) (hgt : g ≠ gt) (hvb : vb < BB ^ m) (h0 : 0 < vb)
    (hl : Lb w3 g (L.take p ++ (out ++ L.drop (p + (m + 1))))) (hm : Mds [g] wr w3) (hol : out.length = m + 1) (hod : Dg BB out) (he : vl BB out = vl BB ((L.drop p).take (m + 1)) % vb) (ht : t = vl BB ((L.drop p).take (m + 1)) / vb) (htb : t < 4294967296) :
    RedW w g gt N K V vb (i + 1) (L.take p ++ (out ++ L.drop (p + (m + 1)))) (T.set p t) (w3.setCell ⟨gt, p, none⟩ (.int .u32 (t : Int))) := by
  have hll := hr.ll
  have hK1 : K - i = p + 1 := by omega
  have hK2 : K - (i + 1) = p := by omega
  refine ⟨?_, by rw [List.length_set]; exact hr.tl, (hr.dl.take p).append (hod.append (hr.dl.drop _)), hr.dt.set _ _ htb, ?_, hl.far (fun e => hgt e) _, Lb.set (hr.bt.mds hm (by simpa using fun e => hgt e.symm)) p t, ?_⟩
  · rw [List.length_append, List.length_append, List.length_take, List.length_drop, hol, hll]; omega
  · rw [hK2, ht]
    exact RedS.next (by decide) (hK1 ▸ hr.r) hr.dl hvb h0 (by omega) (by rw [hr.tl]; omega) hol he
  · exact (hr.x.trans (hm.mono (by simp))).setCell (p := ⟨gt, p, none⟩) (by simp) _
end Go.Proofs.YtfipgmjaabggjaaDoor
namespace Go.Proofs.YtfipgmjaabggjaaDoor
open Go Go.RowKit
set_option maxRecDepth 4000

theorem nl_eq {V L : Nat} (h1 : BB ^ L ≤ V) (h2 : V < BB ^ (L + 1)) : nl V = L + 1 := by
  have hc := cn_dgs (B := BB) (by decide) V
  have hv := vl_dgs (B := BB) (by decide) V
  have a1 := vl_lt (by decide) hc.d
  rw [hv] at a1
  have hne : dgs BB V ≠ [] := fun e => by
    have h3 := (dgs_nil (by decide) V).1 e
    have h4 : 0 < BB ^ L := Nat.pow_pos (by decide)
    omega
  have a2 := cn_lo (by decide) hc hne
  rw [hv] at a2
  show (dgs BB V).length = L + 1
  have hn : 0 < (dgs BB V).length := List.length_pos_iff.2 hne
  generalize (dgs BB V).length = M at *
  have c1 : L < M := by
    rcases Nat.lt_or_ge L M with h | h
    · exact h
    · have := Nat.pow_le_pow_right (n := BB) (by decide) h
      omega
  have c2 : M - 1 < L + 1 := by
    rcases Nat.lt_or_ge (M - 1) (L + 1) with h | h
    · exact h
    · have := Nat.pow_le_pow_right (n := BB) (by decide) h
      omega
  omega
/-- what is asked of a number to divide by -/
theorem top_lo {b : List Nat} {m : Nat} (hl : b.length = m + 1) (ht : dg b m ≠ 0) : BB ^ m ≤ vl BB b := by
  have h1 := vl_split BB b m (by omega)
  have h3 : BB ^ m * 1 ≤ BB ^ m * (dg b m + BB * vl BB (b.drop (m + 1))) := Nat.mul_le_mul_left _ (by omega)
  omega
theorem top_hi {b : List Nat} {m x : Nat} (hl : b.length = m + 1) (db : Dg BB b) (hx : x < 32) (ht : dg b m * 2 ^ x < 4294967296) : vl BB b * 2 ^ x < BB ^ (m + 1) := by
  have h1 := vl_split BB b m (by omega)
  rw [List.drop_eq_nil_of_le (by omega)] at h1
  simp only [vl, Nat.mul_zero, Nat.add_zero] at h1
  have h2 := vl_lt (by decide) (db.take m)
  rw [List.length_take, Nat.min_eq_left (by omega)] at h2
  have e : (4294967296 : Nat) = 2 ^ (32 - x) * 2 ^ x := by rw [← Nat.pow_add, show 32 - x + x = 32 by omega]
  have h3 : dg b m < 2 ^ (32 - x) := by
    rw [e] at ht
    exact Nat.lt_of_mul_lt_mul_right ht
  have h4 : vl BB b < BB ^ m * (dg b m + 1) := by rw [Nat.mul_succ]; omega
  have h5 : BB ^ m * (dg b m + 1) ≤ BB ^ m * 2 ^ (32 - x) := Nat.mul_le_mul_left _ h3
  have h6 : vl BB b * 2 ^ x < BB ^ m * 2 ^ (32 - x) * 2 ^ x := Nat.mul_lt_mul_of_pos_right (by omega) (Nat.pow_pos (by decide))
  rw [Nat.mul_assoc, ← e] at h6
  rw [Nat.pow_succ]
  exact h6
theorem shift_nl {b : List Nat} {m k x s : Nat} (hl : b.length = m + 1) (db : Dg BB b) (ht : dg b m ≠ 0) (hs : s = 32 * k + x) (hx : x < 32) (hh : dg b m * 2 ^ x < 4294967296) : nl (vl BB b * 2 ^ s) = m + k + 1 := by
  have h1 := top_lo hl ht
  have h2 := top_hi hl db hx hh
  have e : (2 : Nat) ^ s = 2 ^ x * BB ^ k := by rw [hs, Nat.add_comm, Nat.pow_add, Nat.pow_mul]
  rw [e, ← Nat.mul_assoc]
  refine nl_eq ?_ ?_
  · rw [Nat.pow_add]
    refine Nat.mul_le_mul_right _ (Nat.le_trans h1 ?_)
    exact Nat.le_mul_of_pos_right _ (Nat.pow_pos (by decide))
  · rw [show m + k + 1 = m + 1 + k by omega, Nat.pow_add]
    exact Nat.mul_lt_mul_of_pos_right h2 (Nat.pow_pos (by decide))
/-- what a call leaves that makes two numbers -/
def FreshL2 (w : World) (q r : Nat) (e : Ending) (w' : World) : Prop :=
  ∃ A n c A' n' c', e = .returned (.tuple #[.slice A n c, .slice A' n' c']) ∧ Rw ut vL w' w.heap.size (.slice A n c) n (dgs BB q) ∧ Rw ut vL w' w.heap.size (.slice A' n' c') n' (dgs BB r) ∧ Ext w w'
theorem top_dgs {V : Nat} (hV : V ≠ 0) : dg (dgs BB V) (nl V - 1) ≠ 0 := by
  have hc := cn_dgs (B := BB) (by decide) V
  have hne : dgs BB V ≠ [] := fun e => hV ((dgs_nil (by decide) V).1 e)
  have hn : 0 < (dgs BB V).length := List.length_pos_iff.2 hne
  intro e
  refine hc.t ?_
  rw [List.getLast?_eq_getElem?, dg_in _ _ (by omega)]
  exact congrArg some e
end Go.Proofs.YtfipgmjaabggjaaDoor
