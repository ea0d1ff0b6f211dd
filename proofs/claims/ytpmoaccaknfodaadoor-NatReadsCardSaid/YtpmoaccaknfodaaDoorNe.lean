/-
  The reference's Same (where it holds), May.
-/
import Derived.Test.YtpmoaccaknfodaaDoorNd
namespace Go.Proofs.YtpmoaccaknfodaaDoor
open Go Go.RowKit

set_option maxHeartbeats 1000000 in
theorem Same_yes {l : List Nat} {A B : Option Addr} {n c m d : Nat} {w : World} (ha : Rd vL w A n c (jn 65536 l)) (hb : Rd vI w B m d l) (hd : Dg 65536 l) (hn : n ≤ 1000000000000) (hm : m ≤ 1000000000000) :
    Calls Tryd.prog 8 #[.slice A n c, .slice B m d] w fun e w' => e = .returned (.bool true) ∧ Ext w w' := by
  have HA := Kp.mk ha
  have hla := ha.len
  have HB := Kp.mk hb
  have HD := Kp.mk hd
  clear ha hb hd
  go_enter Tryd.func8, Tryd.ntmps8
  go_wp2_with fail
  refine (To_any HB.out HD.out hm).mono ?_
  rintro e w1 ⟨A1, k, c1, rfl, h1, hx1⟩
  have hk : k = n := h1.len.symm.trans hla
  subst hk
  have HA1 := Kp.mk (HA.out.ext hx1)
  have H1 := Kp.mk h1
  have HX1 := Kp.mk hx1
  clear h1 hx1
  go_wp2_with fail
  go_loopw [6] (fun iv wr => ∃ i : Nat, i ≤ k ∧ iv = .int .i64 (i : Int) ∧ Ext w1 wr) (fun i _ => k - (intOf i).toNat)
  case atStart => exact ⟨0, by omega, rfl, Ext.refl _⟩
  case round =>
    obtain ⟨i, hi, rfl, hx⟩ := hrel
    by_cases hlt : i < k
    · obtain ⟨g, o, rfl⟩ := HA1.out.some_ (by omega)
      obtain ⟨g2, o2, rfl⟩ := H1.out.some_ (by omega)
      have b0 : (i : Int) < (k : Int) := by omega
      have k1 : wr.cell? ⟨g, o + i, none⟩ = some (.int .u32 (dg (jn 65536 l) i : Int)) := (HA1.out.ext hx).dig i hlt
      have k2 : wr.cell? ⟨g2, o2 + i, none⟩ = some (.int .u32 (dg (jn 65536 l) i : Int)) := (H1.out.ext hx).dig i hlt
      generalize dg (jn 65536 l) i = x at *
      go_wp2_with fail
      go_region
      go_wp2_with fail
      go_roundw
      case rel => exact ⟨i + 1, by omega, by go_num, hx.drew⟩
      case measure => simp [intOf]; omega
    · obtain rfl : i = k := by omega
      go_wp2_with fail
      go_ret
      exact ⟨rfl, HX1.out.trans hx⟩
end Go.Proofs.YtpmoaccaknfodaaDoor
