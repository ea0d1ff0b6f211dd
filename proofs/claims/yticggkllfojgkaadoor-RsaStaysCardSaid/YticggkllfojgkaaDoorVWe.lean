/-
  The walk of sha.pressAll.
-/
import Derived.Test.YticggkllfojgkaaDoorVWd
import Derived.Test.YticggkllfojgkaaDoorM0
namespace Go.Proofs.YticggkllfojgkaaDoor
open Go Go.RowKit
set_option maxRecDepth 4000

theorem sizeB : (Tryd.prog.info? 5).map (·.size) = some 1 := by kernel_rfl
theorem gb_blk (l : List (BitVec 8)) (k j : Nat) (h : j < 64) : gb (blk l k) j = gb (l.drop (64 * k)) j := gb_take _ _ _ h
theorem run_arrayAt {P : Program} (w : World) (t e n m c : Nat) (a : Addr) (h : P.underlying t = some (.array n e)) (hm : n ≤ m) : (Instr.arrayAt t (.slice (some a) m c)).run P w = .ok (.pointer (some a)) w := by
  simp [Instr.arrayAt, Sem.run_bind, run_underlying h, show ¬ m < n by omega]
def lenW : Value → Nat | .slice _ n _ => n | _ => 0
/-- what the loop of pressAll keeps: slot 1, the words -/
def AI (l : List (BitVec 8)) (v : List (BitVec 32)) (n : Nat) (w : World) (x : Value) (wr : World) : Prop :=
  ∃ (k : Nat) (A : Option Addr) (c m : Nat), m + 64 * k = n ∧ x = .slice A m c ∧ Sl w A m c (l.drop (64 * k)) ∧ Has wr w.heap.size 96 (wv (pa KK l v k)) ∧ Has wr (w.heap.size + 1) 96 zero8 ∧ Below w.heap.size w wr

set_option maxHeartbeats 2000000 in
theorem pressAll_any (v : List (BitVec 32)) (l : List (BitVec 8)) (A : Option Addr) (n c : Nat) (w : World) (hv : v.length = 8) (hl : Sl w A n c l) (hw : Laid w) (hn : n ≤ maxLen) :
    Calls Tryd.prog 71 #[.agg (wv v), .slice A n c] w fun e w' => e = .returned (.agg (wv (pa KK l v (n / 64)))) ∧ Below w.heap.size w w' := by
  have H := Lib.hid hv
  have HL := Lib.hid hl
  have HW := Lib.hid hw
  unfold maxLen at hn
  clear hv hl hw
  go_enter Tryd.func71, Tryd.ntmps71
  go_wp2
  go_loopw [1] (fun x wr => AI l v n w x wr) (fun x _ => lenW x)
  case atStart =>
    exact ⟨0, A, c, n, by omega, rfl, HL.out, (Has.new _ _ _ _ rfl).alloc _, Has.new _ _ _ _ (by simp), ((Below.refl _ _).alloc (Nat.le_refl _) _).alloc (by simp) _⟩
  case round =>
    obtain ⟨k, A, c, m, hm, rfl, hs0, hh, hz, hb⟩ := hrel
    have hs := hs0.keep hb
    have HS := Lib.hid hs0
    clear hs0
    have HM := Lib.hid hm
    clear hm
    have hmn : m ≤ n := by have := HM.out; omega
    by_cases hlt : 64 ≤ m
    · obtain ⟨g, o, hA, hc⟩ := hs.some_ (by omega)
      subst hA
      go_wp2
      refine wp_region_still_tail 4 (by kernel_rfl) (by kernel_rfl) ?_
      simp only [List.take_succ_cons, List.take_zero, List.drop_succ_cons, List.drop_zero]
      have hb1 : Below wr.heap.size wr wr.drew := (Below.refl _ _).drew
      have hc2 : ∀ j, j < m → wr.drew.cell? ⟨g, o + j, none⟩ = some (.int .u8 (ub (gb (l.drop (64 * k)) j))) := hc
      have hs2 := hs.keep hb1
      have hh2 := hh.below hb1 hh.lt
      have hz2 := hz.below hb1 hz.lt
      have hb2 := hb.trans (hb1.mono hb.size)
      change wpStill _ _ wr.drew (fun a' => wpList _ _ _ _ a' wr.drew) _ _
      clear hc hs hh hz hb hb1
      generalize wr.drew = wz at *
      have hl8 := pa_len KK l v H.out k
      have HL8 := Lib.hid hl8
      clear hl8
      have hbl := blk_len l k (by have := HL.out.1; have := HM.out; omega)
      have HBL := Lib.hid hbl
      clear hbl
      have hload := run_load_arr (P := Tryd.prog) wz 96 56 8 w.heap.size (wv (pa KK l v k)) Tryd.underlying96 (szW8 _ HL8.out) (fun j v hv => (hh2.cell j).trans hv)
      have harr : (Instr.arrayAt 123 (.slice (some ⟨g, o, none⟩) m c)).run Tryd.prog wz = .ok (.pointer (some ⟨g, o, none⟩)) wz := run_arrayAt wz 123 5 64 m c _ Tryd.underlying123 hlt
      have hload2 := run_load_at (P := Tryd.prog) wz 123 5 64 g o (bv (blk l k)) Tryd.underlying123 (szB64 _ HBL.out) (fun j x hx => by
        have hj : j < 64 := by have := (Array.getElem?_eq_some_iff.1 hx).1; rwa [bv_size, HBL.out] at this
        rw [hc2 j (by omega), ← hx, bv_at _ _ (by rw [HBL.out]; exact hj), gb_blk _ _ _ hj])
      have HLO := Lib.hid hload
      have HLO2 := Lib.hid hload2
      clear hload hload2 hc2
      refine wpStill_load_row rfl 96 _ rfl ⟨w.heap.size, 0, none⟩ rfl _ HLO.out ?_
      iterate 2 still_step
      refine wpStill_load_row rfl 123 _ rfl ⟨g, o, none⟩ rfl _ HLO2.out ?_
      refine wpStill_nil ?_
      clear harr HLO HLO2
      go_wp2_with (first | (go_at_call 95; refine (press_any (pa KK l v k) (blk l k) _ HL8.out HBL.out (HW.out.below hb2 (Nat.le_refl _))).mono ?_; rintro e w1 ⟨rfl, hb3⟩) | (refine wpList_store_row rfl 96 _ _ rfl w.heap.size _ rfl rfl 96 _ (hh2.below hb3 hh2.lt) (szW8 _ (press_len _ _ _ HL8.out)) (by rw [wv_size, wv_size, press_len _ _ _ HL8.out, HL8.out]) (wv_one _) ?_) | fail)
      go_roundw
      case rel =>
        have hd := HS.out.drop 64 hlt
        rw [List.drop_drop] at hd
        refine ⟨k + 1, _, _, m - 64, by have := HM.out; omega, rfl, ?_, (hh2.below hb3 hh2.lt).row _, (hz2.below hb3 hz2.lt).rowfar (by omega) _, below_row (hb2.trans (hb3.mono hb2.size)) (Nat.le_refl _) _⟩
        rw [show 64 * (k + 1) = 64 * k + 64 by omega]
        exact hd
      case measure => simp [lenW]; omega
    · have e : n / 64 = k := by have := HM.out; omega
      subst e
      go_wp2_with (first | (refine wpList_load_row rfl 96 _ rfl w.heap.size rfl 96 _ (0, 0) _ hh Tryd.underlying96 rfl (szW8 _ (pa_len _ _ _ H.out _)) ?_) | (refine wpList_store_row rfl 96 _ _ rfl (w.heap.size + 1) _ rfl rfl 96 _ hz (szW8 _ (pa_len _ _ _ H.out _)) (by rw [wv_size, pa_len _ _ _ H.out]; rfl) (wv_one _) ?_) | fail)
      refine bodyPost_ret (v := .agg (wv (pa KK l v (n / 64)))) ?_ rfl ⟨rfl, ?_⟩
      · exact results_cell_row rfl _ _ (w.heap.size + 1) 96 _ (0, 0) _ rfl (hz.row _) Tryd.underlying96 rfl (szW8 _ (pa_len _ _ _ H.out _))
      · exact below_row hb (by omega) _
end Go.Proofs.YticggkllfojgkaaDoor
