/-
  Arrays of bytes compared.
-/
import Derived.Test.YthggoodcdjgokaaDoorBy
import Derived.Test.YthggoodcdjgokaaDoorMem
import Derived.Laws.StructEq
import Derived.Test.YthggoodcdjgokaaDoorStr
namespace Go.Proofs.YthggoodcdjgokaaDoor
open Go Go.RowKit

theorem ub_beq (x y : BitVec 8) : (ub x == ub y) = (x == y) := by
  by_cases h : x = y
  · subst h; simp
  · have h2 : ub x ≠ ub y := fun e => h (BitVec.eq_of_toNat_eq (by unfold ub at e; omega))
    rw [beq_eq_false_iff_ne.2 h, beq_eq_false_iff_ne.2 h2]
theorem all_bts : ∀ (xs ys : List (BitVec 8)), xs.length = ys.length → ((List.range xs.length).all fun i => gb xs i == gb ys i) = (xs == ys)
  | [], [], _ => rfl
  | x :: xs, y :: ys, h => by
    have ih := all_bts xs ys (by simpa using h)
    rw [List.length_cons, List.range_succ_eq_map, List.all_cons, List.all_map]
    have e1 : ((List.range xs.length).all ((fun i => gb (x :: xs) i == gb (y :: ys) i) ∘ Nat.succ)) = (xs == ys) := by
      rw [← ih]; rfl
    rw [e1]
    rfl
  | [], _ :: _, h => by simp at h
  | _ :: _, [], h => by simp at h

theorem run_equalIn_bts {P : Program} (w : World) (d t e n : Nat) (ht : P.underlying t = some (.array n e)) (he : P.underlying e = some (.int .u8)) (hs : (P.info? e).map (·.size) = some 1)
    (xs ys : List (BitVec 8)) (hx : xs.length = n) (hy : ys.length = n) :
    (Op.equalIn (d + 2) t (.agg (bv xs)) (.agg (bv ys))).run P w = .ok (xs == ys) w := by
  have hsz : ∀ w, (sizeOf e).run P w = .ok 1 w := fun w => by
    cases hq : P.info? e with
    | none => simp [hq] at hs
    | some i =>
      have hs1 : i.size = 1 := by simpa [hq] using hs
      simp [sizeOf, typeInfo, hq, hs1]
  rw [← all_bts xs ys (hx.trans hy.symm), hx, List.range_eq_range', Op.equalIn]
  simp only [Sem.run_bind, run_underlying ht, Result.andThen_ok, hsz, Std.Legacy.Range.forIn_eq_forIn_range', Std.Legacy.Range.size, Nat.sub_zero, Nat.add_sub_cancel, Nat.div_one]
  have hl : ∀ i ∈ List.range' 0 n 1, i < n := fun i hi => by simpa using (List.mem_range'_1.1 hi).2
  generalize List.range' 0 n 1 = l at hl ⊢
  induction l with
  | nil => simp
  | cons i l ih =>
    have hi : i < n := hl i (by simp)
    have px : (part e (bv xs) (i * 1)).run P w = .ok (.int .u8 (ub (gb xs i))) w := by
      simp [part, isAgg, run_underlying he, bv_at xs i (by omega)]
    have py : (part e (bv ys) (i * 1)).run P w = .ok (.int .u8 (ub (gb ys i))) w := by
      simp [part, isAgg, run_underlying he, bv_at ys i (by omega)]
    have pe : (Op.equalIn (d + 1) e (.int .u8 (ub (gb xs i))) (.int .u8 (ub (gb ys i)))).run P w = .ok (gb xs i == gb ys i) w := by
      rw [run_equalIn_int w d e .u8 .u8 _ _ he, ub_beq]
    simp only [List.forIn_cons, Sem.run_bind, px, py, pe, Result.andThen_ok, List.all_cons]
    cases hb : (gb xs i == gb ys i)
    · simp
    · simp only [Bool.not_true, Bool.false_eq_true, if_false, Sem.run_pure, Result.andThen_ok, Bool.true_and]
      exact ih fun j hj => hl j (by simp [hj])
theorem run_eql_bts {P : Program} (w : World) (t e n : Nat) (ht : P.underlying t = some (.array n e)) (he : P.underlying e = some (.int .u8)) (hs : (P.info? e).map (·.size) = some 1)
    (xs ys : List (BitVec 8)) (hx : xs.length = n) (hy : ys.length = n) :
    (binOp .eql t (.agg (bv xs)) (.agg (bv ys))).run P w = .ok (.bool (xs == ys)) w := by
  rw [run_eql_struct, run_equalIn_bts w 9998 t e n ht he hs xs ys hx hy]
  rfl
theorem bl_loop (bs : ByteArray) : ∀ (n i : Nat) (r : List UInt8), bs.size - i = n → ByteArray.toList.loop bs i r = r.reverse ++ bs.data.toList.drop i
  | 0, i, r, h => by
    rw [ByteArray.toList.loop, if_neg (by omega), List.drop_eq_nil_of_le (by have : bs.data.toList.length = bs.size := rfl; omega), List.append_nil]
  | n + 1, i, r, h => by
    have hi : i < bs.size := by omega
    have hi2 : i < bs.data.toList.length := hi
    rw [ByteArray.toList.loop, if_pos hi, bl_loop bs n (i + 1) _ (by omega), List.reverse_cons, List.append_assoc, List.drop_eq_getElem_cons hi2]
    congr 2
    simp [ByteArray.get!, hi]
theorem bl_toList (bs : ByteArray) : bs.toList = bs.data.toList := by
  unfold ByteArray.toList
  rw [bl_loop bs _ 0 [] rfl]
  simp
theorem strOf_toList (l : List (BitVec 8)) : (strOf l).toList = l.map UInt8.ofBitVec := by rw [bl_toList]; rfl
theorem strOf_inj {x y : List (BitVec 8)} (h : (strOf x).toList = (strOf y).toList) : x = y := by
  rw [strOf_toList, strOf_toList] at h
  have h3 := congrArg (List.map UInt8.toBitVec) h
  rw [List.map_map, List.map_map] at h3
  have e : UInt8.toBitVec ∘ UInt8.ofBitVec = id := by funext z; rfl
  rwa [e, List.map_id, List.map_id] at h3
end Go.Proofs.YthggoodcdjgokaaDoor
