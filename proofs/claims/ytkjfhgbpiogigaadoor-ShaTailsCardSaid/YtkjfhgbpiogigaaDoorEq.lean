/-
  Arrays of words compared.
-/
import Derived.Test.YtkjfhgbpiogigaaDoorPure
import Derived.Test.YtkjfhgbpiogigaaDoorMem
import Derived.Laws.StructEq
namespace Go.Proofs.YtkjfhgbpiogigaaDoor
open Go Go.RowKit

theorem all_words : ∀ (xs ys : List (BitVec 32)), xs.length = ys.length → ((List.range xs.length).all fun i => gw xs i == gw ys i) = (xs == ys)
  | [], [], _ => rfl
  | x :: xs, y :: ys, h => by
    have ih := all_words xs ys (by simpa using h)
    rw [List.length_cons, List.range_succ_eq_map, List.all_cons, List.all_map]
    have e1 : ((List.range xs.length).all ((fun i => gw (x :: xs) i == gw (y :: ys) i) ∘ Nat.succ)) = (xs == ys) := by
      rw [← ih]; rfl
    rw [e1]
    rfl
  | [], _ :: _, h => by simp at h
  | _ :: _, [], h => by simp at h

theorem run_equalIn_words {P : Program} (w : World) (d t e n : Nat) (ht : P.underlying t = some (.array n e)) (he : P.underlying e = some (.int .u32)) (hs : (P.info? e).map (·.size) = some 1)
    (xs ys : List (BitVec 32)) (hx : xs.length = n) (hy : ys.length = n) :
    (Op.equalIn (d + 2) t (.agg (wv xs)) (.agg (wv ys))).run P w = .ok (xs == ys) w := by
  have hsz : ∀ w, (sizeOf e).run P w = .ok 1 w := fun w => by
    cases hq : P.info? e with
    | none => simp [hq] at hs
    | some i =>
      have hs1 : i.size = 1 := by simpa [hq] using hs
      simp [sizeOf, typeInfo, hq, hs1]
  rw [← all_words xs ys (hx.trans hy.symm), hx, List.range_eq_range', Op.equalIn]
  simp only [Sem.run_bind, run_underlying ht, Result.andThen_ok, hsz, Std.Legacy.Range.forIn_eq_forIn_range', Std.Legacy.Range.size, Nat.sub_zero, Nat.add_sub_cancel, Nat.div_one]
  have hl : ∀ i ∈ List.range' 0 n 1, i < n := fun i hi => by simpa using (List.mem_range'_1.1 hi).2
  generalize List.range' 0 n 1 = l at hl ⊢
  induction l with
  | nil => simp
  | cons i l ih =>
    have hi : i < n := hl i (by simp)
    have px : (part e (wv xs) (i * 1)).run P w = .ok (.int .u32 (un (gw xs i))) w := by
      simp [part, isAgg, run_underlying he, wv_at xs i (by omega)]
    have py : (part e (wv ys) (i * 1)).run P w = .ok (.int .u32 (un (gw ys i))) w := by
      simp [part, isAgg, run_underlying he, wv_at ys i (by omega)]
    have pe : (Op.equalIn (d + 1) e (.int .u32 (un (gw xs i))) (.int .u32 (un (gw ys i)))).run P w = .ok (gw xs i == gw ys i) w := by
      rw [run_equalIn_int w d e .u32 .u32 _ _ he, un_beq]
    simp only [List.forIn_cons, Sem.run_bind, px, py, pe, Result.andThen_ok, List.all_cons]
    cases hb : (gw xs i == gw ys i)
    · simp
    · simp only [Bool.not_true, Bool.false_eq_true, if_false, Sem.run_pure, Result.andThen_ok, Bool.true_and]
      exact ih fun j hj => hl j (by simp [hj])
theorem run_eql_words {P : Program} (w : World) (t e n : Nat) (ht : P.underlying t = some (.array n e)) (he : P.underlying e = some (.int .u32)) (hs : (P.info? e).map (·.size) = some 1)
    (xs ys : List (BitVec 32)) (hx : xs.length = n) (hy : ys.length = n) :
    (binOp .eql t (.agg (wv xs)) (.agg (wv ys))).run P w = .ok (.bool (xs == ys)) w := by
  rw [run_eql_struct, run_equalIn_words w 9998 t e n ht he hs xs ys hx hy]
  rfl
end Go.Proofs.YtkjfhgbpiogigaaDoor
