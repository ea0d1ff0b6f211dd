/-
  A slice of bytes turned into a string.
-/
import Derived.Test.YthookcnkmlmgcaaVSl
import Derived.Laws.BytesString
namespace Go.Proofs.Ythookcnkmlmgcaa
open Go Go.RowKit
set_option maxRecDepth 4000

/-- the string of these bytes -/
def strOf (l : List (BitVec 8)) : ByteArray := ⟨(l.map UInt8.ofBitVec).toArray⟩
theorem fold_push (l : List (BitVec 8)) : ∀ s : ByteArray, (l.map ub).foldl (fun r n => r.push (UInt8.ofNat n.toNat)) s = ⟨s.data ++ (l.map UInt8.ofBitVec).toArray⟩ := by
  induction l with
  | nil => intro s; simp
  | cons b l ih =>
    intro s
    simp only [List.map_cons, List.foldl_cons]
    rw [ih]
    have e : UInt8.ofNat (ub b).toNat = UInt8.ofBitVec b := by
      unfold ub; rw [Int.toNat_natCast]
      apply UInt8.toNat_inj.1
      have := b.isLt
      simp
    rw [e]
    congr 1
    apply Array.ext'
    simp [ByteArray.push]
theorem run_str {P : Program} {w : World} {A : Option Addr} {n c : Nat} {l : List (BitVec 8)} (h : Sl w A n c l) (src dst e : TypeId)
    (hs : P.underlying src = some (.slice e)) (he : P.underlying e = some (.int .u8)) (hd : P.underlying dst = some .string) :
    (convert src dst (.slice A n c)).run P w = .ok (.string (strOf l)) w := by
  rw [run_convert_bytes_string w src dst e A n c hs he hd]
  cases A with
  | none =>
    obtain ⟨rfl, rfl⟩ := h.2.2.1 rfl
    have hl0 : l = [] := List.eq_nil_of_length_eq_zero h.1
    subst hl0
    rfl
  | some ad =>
    have hl : (loadCells ad n).run P w = .ok ((l.map ub).map (Value.int .u8)).toArray w := by
      have hlen : ((l.map ub).map (Value.int .u8)).length = n := by simp [h.1]
      have := run_loadCells_list (P := P) w ad ((l.map ub).map (Value.int .u8)) (fun j v hv => by
        have hj : j < n := by have := (List.getElem?_eq_some_iff.1 hv).1; rwa [hlen] at this
        obtain ⟨g, o, e1, hc⟩ := h.2.2.2 (by omega)
        obtain rfl := Option.some.inj e1
        have hadd : (⟨g, o, none⟩ : Addr).add j = ⟨g, o + j, none⟩ := by unfold Addr.add; split <;> simp_all
        rw [hadd, hc j hj, ← hv]
        have hjl : j < l.length := by rw [h.1]; exact hj
        simp [gb, hjl])
      rwa [hlen] at this
    rw [run_bytesToString w _ n c (l.map ub) hl, fold_push, show ByteArray.empty.data = #[] from rfl, Array.empty_append]
    rfl
end Go.Proofs.Ythookcnkmlmgcaa
