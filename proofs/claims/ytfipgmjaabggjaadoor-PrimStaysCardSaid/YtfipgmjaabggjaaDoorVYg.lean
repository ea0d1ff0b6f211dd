/-
  bytes.Compare.
-/
import Derived.Test.YtfipgmjaabggjaaDoorVYf
import Derived.Test.YtfipgmjaabggjaaDoorM24
import Derived.Lib.Bytealg
import Derived.Lib.BytesEntry
namespace Go.Proofs.YtfipgmjaabggjaaDoor
open Go Go.RowKit Go.Shelf
set_option maxRecDepth 4000

theorem run_bytesOf8 {l : List (BitVec 8)} {A : Option Addr} {n c : Nat} {w : World} (h : Bs w A n c l) : (Extern.Bytes.bytesOf (.slice A n c)).run Tryd.prog w = .ok ⟨(l.map UInt8.ofBitVec).toArray⟩ w := by
  have hlen := h.len
  cases A with
  | none =>
    obtain ⟨rfl, _⟩ := h.s.2.2.1 rfl
    obtain rfl : l = [] := List.eq_nil_of_length_eq_zero hlen
    rfl
  | some a =>
    have e : Lib.bytesOf (l.map ub) = l.map UInt8.ofBitVec := by
      unfold Lib.bytesOf
      rw [List.map_map]
      refine List.map_congr_left fun x _ => ?_
      apply UInt8.eq_of_toBitVec_eq
      simp [ub]
    have hl := Lib.run_loadBytesX (P := Tryd.prog) w (l.map ub) a .empty (fun j x hj => by
      have hjl : j < l.length := by have := (List.getElem?_eq_some_iff.1 hj).1; rwa [List.length_map] at this
      obtain ⟨g, o, ea, hc⟩ := h.s.2.2.2 (by omega)
      cases ea
      have e2 : (⟨g, o, none⟩ : Addr).add j = ⟨g, o + j, none⟩ := by unfold Addr.add; split <;> simp_all
      rw [e2, hc j (by omega)]
      rw [List.getElem?_map, List.getElem?_eq_getElem hjl] at hj
      cases hj
      simp [gb, hjl])
    rw [List.length_map, hlen, e] at hl
    have he : (⟨ByteArray.empty.data ++ (l.map UInt8.ofBitVec).toArray⟩ : ByteArray) = ⟨(l.map UInt8.ofBitVec).toArray⟩ := by
      apply ByteArray.ext
      show (#[] : Array UInt8) ++ _ = _
      simp
    rw [he] at hl
    exact hl
theorem Compare8_any {l1 l2 : List (BitVec 8)} {A B : Option Addr} {n c m d : Nat} {w : World} (h1 : Bs w A n c l1) (h2 : Bs w B m d l2) :
    Calls Tryd.prog 62 #[.slice A n c, .slice B m d] w fun e w' => e = .returned (.int .i64 (Lib.compareBytes (l1.map UInt8.ofBitVec) (l2.map UInt8.ofBitVec))) ∧ w' = w := by
  have hcall : (callFunc 80 #[.slice A n c, .slice B m d]).run Tryd.prog w = .ok (.value (.int .i64 (Lib.compareBytes (l1.map UInt8.ofBitVec) (l2.map UInt8.ofBitVec)))) w := by
    rw [run_callFunc_extern Tryd.func80 (by kernel_rfl) (by kernel_rfl) (by kernel_rfl) (e := Extern.BytealgCompare.compare) (by kernel_rfl)]
    have hrun : (Extern.BytealgCompare.compare #[.slice A n c, .slice B m d]).run Tryd.prog w = .ok (.int .i64 (Lib.compareBytes (l1.map UInt8.ofBitVec) (l2.map UInt8.ofBitVec))) w := by
      change Sem.run Tryd.prog (do pure (goInt (Extern.BytealgCompare.cmp (← Extern.Bytes.bytesOf (.slice A n c)) (← Extern.Bytes.bytesOf (.slice B m d))))) w = _
      simp only [Sem.run_bind, run_bytesOf8 h1, run_bytesOf8 h2, Sem.run_pure, Result.andThen]
      rw [Lib.cmp_eq]
      rfl
    rw [hrun]
    rfl
  clear h1 h2
  go_enter Tryd.func62, Tryd.ntmps62
  go_wp2
  go_ret
  exact ⟨rfl, rfl⟩
end Go.Proofs.YtfipgmjaabggjaaDoor
