/-
  nat: addTo, sums in place.
-/
import Derived.Test.YtpmoaccaknfodaaDoorNj
namespace Go.Proofs.YtpmoaccaknfodaaDoor
open Go Go.RowKit

theorem mid_dg {pre out post : List Nat} {o i : Nat} (ho : pre.length = o) (hi : i < out.length) : dg (pre ++ (out ++ post)) (o + i) = dg out i := by
  subst ho
  rw [dg_append_r, dg_append_l _ _ _ hi]
theorem mid_set {pre out post : List Nat} {o i x : Nat} (ho : pre.length = o) (hi : i < out.length) : (pre ++ (out ++ post)).set (o + i) x = pre ++ (out.set i x ++ post) := by
  subst ho
  rw [List.set_append_right _ _ (by omega), Nat.add_sub_cancel_left, List.set_append_left _ _ hi]
section
variable {w : World} {g o i : Nat} {pre out post : List Nat}
theorem Lb.mcell (h : Lb w g (pre ++ (out ++ post))) (ho : pre.length = o) (hi : i < out.length) : w.cell? ⟨g, o + i, none⟩ = some (.int .u32 (dg out i : Int)) := by
  rw [← mid_dg (post := post) ho hi]
  exact Lb.cell h (o + i) (by rw [List.length_append, List.length_append]; omega)
theorem Lb.mset (h : Lb w g (pre ++ (out ++ post))) (ho : pre.length = o) (hi : i < out.length) (x : Nat) : Lb (w.setCell ⟨g, o + i, none⟩ (.int .u32 (x : Int))) g (pre ++ (out.set i x ++ post)) := by
  rw [← mid_set ho hi]
  exact Lb.set h (o + i) x
end
/-- what a sum in place leaves -/
def Added (w : World) (g : Nat) (pre a post b : List Nat) (e : Ending) (w' : World) : Prop :=
  ∃ out cr, e = .returned (.tuple #[]) ∧ out.length = a.length ∧ Dg BB out ∧ cr ≤ 1 ∧ vl BB out + BB ^ a.length * cr = vl BB a + vl BB b ∧ Lb w' g (pre ++ (out ++ post)) ∧ Mds [g] w w'
set_option maxHeartbeats 1000000 in
theorem addTo_any {pre a post b : List Nat} {g o n c m d : Nat} {B : Option Addr} {w : World} (hA : Lb w g (pre ++ (a ++ post))) (ho : pre.length = o) (hn : a.length = n) (hb : Rd vL w B m d b) (hob : 0 < m → Out B [g])
    (da : Dg BB a) (db : Dg BB b) (hm : m ≤ n) (hlim : n ≤ 1000000000000) :
    Calls Tryd.prog 52 #[.slice (some ⟨g, o, none⟩) n c, .slice B m d] w (Added w g pre a post b) := by
  have hlb := hb.len
  have HA := Kp.mk hA
  have HB := Kp.mk hb
  have DA := Kp.mk da
  have DB := Kp.mk db
  clear hA hb da db
  go_enter Tryd.func52, Tryd.ntmps52
  go_wp2_with fail
  go_loopw [4, 9] (fun cv iv wr => ∃ i : Nat, ∃ cr : Nat, ∃ out : List Nat, i ≤ n ∧ iv = .int .i64 (i : Int) ∧ cv = .int .u64 (cr : Int) ∧ AddP BB a b i out cr ∧ Lb wr g (pre ++ (out ++ post)) ∧ Mds [g] w wr) (fun _ i _ => n - (intOf i).toNat)
  case atStart => exact ⟨0, 0, a, by omega, rfl, rfl, AddP.start DA.out b, HA.out, Mds.refl _ _⟩
  case round =>
    obtain ⟨i, cr, out, hi, rfl, rfl, hs, hL, hx⟩ := hrel
    have hol := hs.len
    by_cases hlt : i < n
    · have b0 : (i : Int) < (n : Int) := by omega
      have k1 := hL.mcell ho (i := i) (by omega)
      have k4 := Lb.free hL (o + i)
      have h1 := hs.d.at32 i
      have h2 := DB.out.at32 i
      have h3 := hs.cr
      have HN := Kp.mk (fun t (ht : t = dg out i + cr + dg b i) => hs.next (by decide) DB.out (by omega) ht)
      have HL := Kp.mk (fun x => hL.mset ho (i := i) (by omega) x)
      have HX := Kp.mk hx
      by_cases hlm : i < m
      · have b1 : (i : Int) < (m : Int) := by omega
        obtain ⟨g2, o2, rfl⟩ := HB.out.some_ (by omega)
        have k2 := (HB.out.mds hx hob).dig i hlm
        unfold vL at k2
        generalize dg out i = x at *
        generalize dg b i = y at *
        clear hs hL hx
        go_wp2_with fail
        go_roundw
        case rel =>
          refine ⟨i + 1, (x + cr + y) / BB, _, by omega, by go_num, by rw [show ((x : Int) + (cr : Int) + (y : Int)) / 4294967296 = (((x + cr + y) / 4294967296 : Nat) : Int) by omega], HN.out _ rfl, ?_, (HX.out.setCell (p := ⟨g, o + i, none⟩) (by simp) _)⟩
          rw [show ((x : Int) + (cr : Int) + (y : Int)) % 4294967296 = (((x + cr + y) % 4294967296 : Nat) : Int) by omega]
          exact HL.out _
        case measure => simp [intOf]; omega
      · have b1 : (m : Int) ≤ (i : Int) := by omega
        have e0 : dg b i = 0 := dg_out b i (by omega)
        rw [e0] at HN
        generalize dg out i = x at *
        clear hs hL hx h2 e0
        go_wp2_with fail
        go_roundw
        case rel =>
          refine ⟨i + 1, (x + cr) / BB, _, by omega, by go_num, by rw [show ((x : Int) + (cr : Int)) / 4294967296 = (((x + cr) / 4294967296 : Nat) : Int) by omega], HN.out _ rfl, ?_, (HX.out.setCell (p := ⟨g, o + i, none⟩) (by simp) _)⟩
          rw [show ((x : Int) + (cr : Int)) % 4294967296 = (((x + cr) % 4294967296 : Nat) : Int) by omega]
          exact HL.out _
        case measure => simp [intOf]; omega
    · obtain rfl : i = n := by omega
      have hv : vl BB out + BB ^ a.length * cr = vl BB a + vl BB b := by
        have h := hs
        rw [← hn] at h
        exact h.done (by omega)
      have HF := Kp.mk (show Added w g pre a post b (.returned (.tuple #[])) wr from ⟨out, cr, rfl, hol, hs.d, hs.cr, hv, hL, hx⟩)
      clear hs hL hx hv
      go_wp2_with fail
      go_end0
      exact HF.out
/-- the cells of a row, put into a block from its beginning on -/
theorem dg_ext {a b : List Nat} (hl : a.length = b.length) (h : ∀ i, i < a.length → dg a i = dg b i) : a = b := by
  refine List.ext_getElem hl fun i h1 h2 => ?_
  have := h i h1
  simpa [dg, h1, h2] using this
end Go.Proofs.YtpmoaccaknfodaaDoor
