/-
  Arrays of bytes compared.
-/
import Derived.Test.YthookcnkmlmgcaaDoorM0
import Derived.Test.YthookcnkmlmgcaaDoorM3
import Derived.Stop.BytesEq
namespace Go.Proofs.YthookcnkmlmgcaaDoor
open Go Go.RowKit
set_option maxRecDepth 4000

theorem ub_beq (x y : BitVec 8) : (ub x == ub y) = (x == y) := by
  by_cases h : x = y
  · subst h; simp
  · have h2 : ub x ≠ ub y := fun e => h (BitVec.eq_of_toNat_eq (by unfold ub at e; omega))
    rw [beq_eq_false_iff_ne.2 h, beq_eq_false_iff_ne.2 h2]
theorem bv_cells (l : List (BitVec 8)) : bv l = ((l.map UInt8.ofBitVec).map Extern.Stop.cell).toArray := by
  unfold bv
  rw [List.map_map]
  rfl
theorem of_beq (xs ys : List (BitVec 8)) : (xs.map UInt8.ofBitVec == ys.map UInt8.ofBitVec) = (xs == ys) := by
  by_cases h : xs = ys
  · subst h; simp
  · have h2 : xs.map UInt8.ofBitVec ≠ ys.map UInt8.ofBitVec := fun e => h (by
      have h3 := congrArg (List.map UInt8.toBitVec) e
      rw [List.map_map, List.map_map] at h3
      have e1 : UInt8.toBitVec ∘ UInt8.ofBitVec = id := by funext z; rfl
      rwa [e1, List.map_id, List.map_id] at h3)
    rw [beq_eq_false_iff_ne.2 h, beq_eq_false_iff_ne.2 h2]
/-- the library's law on arrays of bytes, at bytes as bit vectors -/
theorem run_equalIn_bts {P : Program} (w : World) (d t e n : Nat) (ht : P.underlying t = some (.array n e)) (he : P.underlying e = some (.int .u8)) (hs : (P.info? e).map (·.size) = some 1)
    (xs ys : List (BitVec 8)) (hx : xs.length = n) (hy : ys.length = n) :
    (Op.equalIn (d + 2) t (.agg (bv xs)) (.agg (bv ys))).run P w = .ok (xs == ys) w := by
  have hsz : ∀ w, (sizeOf e).run P w = .ok 1 w := fun w => by
    cases hq : P.info? e with
    | none => simp [hq] at hs
    | some i =>
      have hs1 : i.size = 1 := by simpa [hq] using hs
      simp [sizeOf, typeInfo, hq, hs1]
  rw [bv_cells, bv_cells, run_equalIn_bytes w d t e n ht he hsz _ _ (by rw [List.length_map, hx]) (by rw [List.length_map, hy]), of_beq]
theorem bl_loop (bs : ByteArray) : ∀ (n i : Nat) (r : List UInt8), bs.size - i = n → ByteArray.toList.loop bs i r = r.reverse ++ bs.data.toList.drop i
  | 0, i, r, h => by
    rw [ByteArray.toList.loop, if_neg (by omega), List.drop_eq_nil_of_le (by have : bs.data.toList.length = bs.size := rfl; omega), List.append_nil]
  | n + 1, i, r, h => by
    have hi : i < bs.size := by omega
    have hi2 : i < bs.data.toList.length := hi
    rw [ByteArray.toList.loop, if_pos hi, bl_loop bs n (i + 1) _ (by omega), List.reverse_cons, List.append_assoc, List.drop_eq_getElem_cons hi2]
    congr 2
    simp [ByteArray.get!, hi]
theorem bl_toList (bs : ByteArray) : bs.toList = bs.data.toList := by
  unfold ByteArray.toList
  rw [bl_loop bs _ 0 [] rfl]
  simp
theorem strOf_toList (l : List (BitVec 8)) : (strOf l).toList = l.map UInt8.ofBitVec := by rw [bl_toList]; rfl
theorem strOf_inj {x y : List (BitVec 8)} (h : (strOf x).toList = (strOf y).toList) : x = y := by
  rw [strOf_toList, strOf_toList] at h
  have h3 := congrArg (List.map UInt8.toBitVec) h
  rw [List.map_map, List.map_map] at h3
  have e : UInt8.toBitVec ∘ UInt8.ofBitVec = id := by funext z; rfl
  rwa [e, List.map_id, List.map_id] at h3
end Go.Proofs.YthookcnkmlmgcaaDoor
