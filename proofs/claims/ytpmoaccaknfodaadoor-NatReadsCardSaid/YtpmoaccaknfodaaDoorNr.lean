/-
  nat: takeFrom, differences in place.
-/
import Derived.Test.YtpmoaccaknfodaaDoorNo
namespace Go.Proofs.YtpmoaccaknfodaaDoor
open Go Go.RowKit

/-- what a difference in place leaves -/
def Taken (w : World) (g : Nat) (pre a post b : List Nat) (k : Nat) (e : Ending) (w' : World) : Prop :=
  ∃ out cr, e = .returned (.bool (decide (0 < cr))) ∧ out.length = a.length ∧ Dg BB out ∧ vl BB a + BB ^ a.length * cr = vl BB out + k * vl BB b ∧ Lb w' g (pre ++ (out ++ post)) ∧ Mds [g] w w'
set_option maxHeartbeats 2000000 in
theorem takeFrom_any {pre a post b : List Nat} {g o n c m d k : Nat} {B : Option Addr} {w : World} (hA : Lb w g (pre ++ (a ++ post))) (ho : pre.length = o) (hn : a.length = n) (hb : Rd vL w B m d b) (hob : 0 < m → Out B [g])
    (da : Dg BB a) (db : Dg BB b) (hm : m ≤ n) (hlim : n ≤ 1000000000000) (hnc : n ≤ c) (hk : k < 4294967296) :
    Calls Tryd.prog 44 #[.slice (some ⟨g, o, none⟩) n c, .slice B m d, .int .u32 (k : Int)] w (Taken w g pre a post b k) := by
  have hlb := hb.len
  have HA := Kp.mk hA
  have HB := Kp.mk hb
  have DA := Kp.mk da
  have DB := Kp.mk db
  have hs1 := fun W => run_upto (P := Tryd.prog) (some ⟨g, o, none⟩) n c nt ut Tryd.underlying25 szL m (m : Int) rfl (by omega) W
  have hs2 := fun W => run_from (P := Tryd.prog) (some ⟨g, o, none⟩) n c nt ut Tryd.underlying25 szL m (m : Int) rfl (by omega) W
  have hAH : m < n → (if c = m then (some (⟨g, o, none⟩ : Addr)) else (some (⟨g, o, none⟩ : Addr)).map (·.add m)) = some ⟨g, o + m, none⟩ := fun h => by
    rw [if_neg (by omega)]
    simp only [Option.map_some, Option.some.injEq]
    unfold Addr.add
    split <;> simp_all
  have HAH := Kp.mk hAH
  generalize (if c = m then (some (⟨g, o, none⟩ : Addr)) else (some (⟨g, o, none⟩ : Addr)).map (·.add m)) = AH at *
  clear hA hb da db hAH
  go_enter Tryd.func44, Tryd.ntmps44
  go_wp2_with fail
  go_region
  go_wp2_with fail
  go_loopw [9, 25] (fun cv iv wr => ∃ i : Nat, ∃ cr : Nat, ∃ out : List Nat, i ≤ m ∧ iv = .int .i64 (i : Int) ∧ cv = .int .i64 (-(cr : Int)) ∧ SubP BB a b k i out cr ∧ Lb wr g (pre ++ (out ++ post)) ∧ Mds [g] w wr) (fun _ i _ => m - (intOf i).toNat)
  case atStart => exact ⟨0, 0, a, by omega, rfl, by simp, SubP.start (by decide) DA.out b k, HA.out.ext (Ext.refl _).drew, (Mds.refl _ _).drew⟩
  case round =>
    obtain ⟨i, cr, out, hi, rfl, rfl, hs, hL, hx⟩ := hrel
    have hol := hs.len
    by_cases hlt : i < m
    · have b0 : (i : Int) < (m : Int) := by omega
      have k1 := hL.mcell ho (i := i) (by omega)
      have k4 := Lb.free hL (o + i)
      have h1 := hs.d.at32 i
      have h2 := DB.out.at32 i
      have h3 : cr < 4294967296 := hs.cr
      have HN := Kp.mk (fun x c' (hx : x < BB) (he : dg out i + BB * c' = x + k * dg b i + cr) => hs.next (by decide) DB.out hk (by omega) hx he)
      have HL := Kp.mk (fun x => hL.mset ho (i := i) (by omega) x)
      have HX := Kp.mk hx
      obtain ⟨g2, o2, rfl⟩ := HB.out.some_ (by omega)
      have k2 := (HB.out.mds hx hob).dig i hlt
      unfold vL at k2
      generalize dg out i = x at *
      generalize dg b i = y at *
      have hp : k * y ≤ 4294967295 * 4294967295 := Nat.mul_le_mul (by omega) (by omega)
      obtain ⟨p, hpp⟩ : ∃ p, k * y = p := ⟨_, rfl⟩
      have e0 : (k : Int) * (y : Int) = (p : Int) := by rw [← hpp]; exact (Int.natCast_mul k y).symm
      rw [hpp] at hp HN
      clear hs hL hx hpp
      go_wp2_with fail
      go_roundw
      case rel =>
        obtain ⟨X, hX⟩ : ∃ X : Nat, (X : Int) = ((x : Int) - (p : Int) % 4294967296 + -(cr : Int)) % 4294967296 := ⟨(((x : Int) - (p : Int) % 4294967296 + -(cr : Int)) % 4294967296).toNat, by omega⟩
        obtain ⟨C, hC⟩ : ∃ C : Nat, -(C : Int) = ((x : Int) - (p : Int) % 4294967296 + -(cr : Int)) / 4294967296 - (p : Int) / 4294967296 := ⟨(-(((x : Int) - (p : Int) % 4294967296 + -(cr : Int)) / 4294967296 - (p : Int) / 4294967296)).toNat, by omega⟩
        rw [← hX, ← hC]
        exact ⟨i + 1, C, _, by omega, by go_num, rfl, HN.out X C (show X < 4294967296 by omega) (show x + 4294967296 * C = X + p + cr by omega), HL.out X, HX.out.setCell (p := ⟨g, o + i, none⟩) (by simp) _⟩
      case measure => simp [intOf]; omega
    · obtain rfl : i = m := by omega
      have HS := Kp.mk hs
      have HL0 := Kp.mk hL
      have HX0 := Kp.mk hx
      clear hs hL hx
      go_wp2_with fail
      go_loopw [9, 61] (fun cv iv wr => ∃ j : Nat, ∃ cr : Nat, ∃ out : List Nat, j ≤ n - i ∧ iv = .int .i64 (j : Int) ∧ cv = .int .i64 (-(cr : Int)) ∧ SubP BB a b k (i + j) out cr ∧ Lb wr g (pre ++ (out ++ post)) ∧ Mds [g] w wr) (fun _ j _ => n - i - (intOf j).toNat)
      case atStart => exact ⟨0, cr, out, by omega, rfl, rfl, HS.out, HL0.out, HX0.out⟩
      case round =>
        clear HS HL0 HX0 hol
        obtain ⟨j, cr, out, hj, rfl, rfl, hs, hL, hx⟩ := hrel
        have hol := hs.len
        by_cases hlt : j < n - i
        · obtain rfl := HAH.out (by omega)
          have b0 : (j : Int) < (n : Int) - (i : Int) := by omega
          have b1 : (j : Int) < ((n - i : Nat) : Int) := by omega
          have k1 := hL.mcell ho (i := i + j) (by omega)
          rw [← Nat.add_assoc] at k1
          have k4 := Lb.free hL (o + i + j)
          have h1 := hs.d.at32 (i + j)
          have h3 : cr < 4294967296 := hs.cr
          have HN := Kp.mk (fun x c' (hx : x < BB) (he : dg out (i + j) + BB * c' = x + k * dg b (i + j) + cr) => hs.next (by decide) DB.out hk (by omega) hx he)
          rw [dg_out b (i + j) (by omega), Nat.mul_zero] at HN
          have HL := Kp.mk (fun x => hL.mset ho (i := i + j) (by omega) x)
          have HX := Kp.mk hx
          generalize dg out (i + j) = x at *
          clear hs hL hx
          go_wp2_with fail
          go_roundw
          case rel =>
            obtain ⟨X, hX⟩ : ∃ X : Nat, (X : Int) = ((x : Int) + -(cr : Int)) % 4294967296 := ⟨(((x : Int) + -(cr : Int)) % 4294967296).toNat, by omega⟩
            obtain ⟨C, hC⟩ : ∃ C : Nat, -(C : Int) = ((x : Int) + -(cr : Int)) / 4294967296 := ⟨(-(((x : Int) + -(cr : Int)) / 4294967296)).toNat, by omega⟩
            rw [← hX, ← hC]
            have HL2 := HL.out X
            rw [← Nat.add_assoc] at HL2
            exact ⟨j + 1, C, _, by omega, by go_num, rfl, HN.out X C (show X < 4294967296 by omega) (show x + 4294967296 * C = X + 0 + cr by omega), HL2, HX.out.setCell (p := ⟨g, o + i + j, none⟩) (by simp) _⟩
          case measure => simp [intOf]; omega
        · obtain rfl : j = n - i := by omega
          have hv : vl BB a + BB ^ a.length * cr = vl BB out + k * vl BB b := by
            have h := hs
            rw [show i + (n - i) = a.length by omega] at h
            exact h.done (by omega)
          have HF := Kp.mk (show Taken w g pre a post b k (.returned (.bool (decide (0 < cr)))) wr from ⟨out, cr, rfl, hol, hs.d, hv, hL, hx⟩)
          clear hs hL hx hv
          by_cases hz : 0 < cr
          · have e1 : decide (-(cr : Int) < 0) = true := by simp; omega
            rw [decide_eq_true hz] at HF
            go_wp2_with fail
            go_ret
            exact HF.out
          · have e1 : cr = 0 := by omega
            subst e1
            go_wp2_with fail
            go_ret
            exact HF.out
end Go.Proofs.YtpmoaccaknfodaaDoor
