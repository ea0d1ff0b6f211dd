/-
  The walk of the reference's Press.
-/
import Derived.Test.YtkjfhgbpiogigaaDoorRj
import Derived.Test.YtkjfhgbpiogigaaDoorRb
namespace Go.Proofs.YtkjfhgbpiogigaaDoor
open Go Go.RowKit

/-- a fact put aside: nothing opens it -/
structure Hd (p : Prop) : Prop where
  out : p
/-- what the loops of the reference's Press keep: the words, the result's cell, the schedule at g, the words so far behind it, the constants -/
def RP (K l s : List (BitVec 32)) (w : World) (g : Nat) (A : Option Addr) (c : Nat) (p : List (BitVec 32)) (wr : World) : Prop :=
  Has wr w.heap.size 28 (wv l) ∧ Has wr (w.heap.size + 2) 28 (wv (List.replicate 8 0)) ∧ Has wr g 25 (wv s) ∧ Has wr (g + 1) 28 (wv p) ∧ w.heap.size + 3 ≤ g ∧ Ow wr A 64 c (K.map vu) ∧ Below w.heap.size w wr
section
variable {K l s : List (BitVec 32)} {w wr w1 : World} {g c : Nat} {A : Option Addr} {p : List (BitVec 32)}
theorem RP.keep (h : RP K l s w g A c p wr) (hb : Below wr.heap.size wr w1) : RP K l s w g A c p w1 := by
  obtain ⟨h1, h2, h3, h4, h5, h6, h7⟩ := h
  exact ⟨h1.below hb h1.lt, h2.below hb h2.lt, h3.below hb h3.lt, h4.below hb h4.lt, h5, h6.keep hb, h7.trans (hb.mono h7.size)⟩
end
theorem Ow.below {w w' : World} {A : Option Addr} {n c : Nat} {xs : List Value} {B : Nat} (h : Ow w A n c xs) (hb : Below B w w') (hB : w.heap.size ≤ B) : Ow w' A n c xs := by
  refine ⟨h.1, h.2.1, fun hn => ?_⟩
  obtain ⟨g, e, hc⟩ := h.2.2 hn
  exact ⟨g, e, fun j x hx => (hb.cell (p := ⟨g, j, none⟩) (Nat.lt_of_lt_of_le (block_lt_of_cell (hc j x hx)) hB)).trans (hc j x hx)⟩
section
variable {K l s : List (BitVec 32)} {w wr : World} {g c : Nat} {A : Option Addr} {p : List (BitVec 32)}
theorem RP.row (h : RP K l s w g A c p wr) (ho : Ow w A 64 c (K.map vu)) (q : List (BitVec 32)) : RP K l s w g A c q (wr.setRow (g + 1) (wv q)) := by
  obtain ⟨h1, h2, h3, h4, h5, h6, h7⟩ := h
  have hb : Below w.heap.size w (wr.setRow (g + 1) (wv q)) := below_row h7 (by omega) _
  exact ⟨h1.rowfar (by omega) _, h2.rowfar (by omega) _, h3.rowfar (by omega) _, h4.row _, h5, ho.below hb (Nat.le_refl _), hb⟩
theorem RP.set (h : RP K l s w g A c p wr) (ho : Ow w A 64 c (K.map vu)) (k : Nat) (x : BitVec 32) : RP K l s w g A c (p.set k x) (wr.setCell ⟨g + 1, k, none⟩ (.int .u32 (un x))) := by
  obtain ⟨h1, h2, h3, h4, h5, h6, h7⟩ := h
  have hb : Below w.heap.size w (wr.setCell ⟨g + 1, k, none⟩ (.int .u32 (un x))) := h7.setCell (p := ⟨g + 1, k, none⟩) (show w.heap.size ≤ g + 1 by omega) _
  exact ⟨h1.far (show w.heap.size ≠ g + 1 by omega) _, h2.far (show w.heap.size + 2 ≠ g + 1 by omega) _, h3.far (show g ≠ g + 1 by omega) _, by have := h4.set k (.int .u32 (un x)); rw [wv_set] at this; exact this, h5, ho.below hb (Nat.le_refl _), hb⟩
end
theorem RP.start1 {l s : List (BitVec 32)} {w w1 : World} (b1 : Has w1 w.heap.size 28 (wv l)) :
    Has ((w1.alloc (.cells (wv (List.replicate 64 0)) 25)).setRow w1.heap.size (wv s)) w.heap.size 28 (wv l) := by
  have hlt := b1.lt
  exact (b1.alloc _).rowfar (by omega) _
theorem RP.start (K l s : List (BitVec 32)) {w w1 : World} {A : Option Addr} {c : Nat} (b1 : Has w1 w.heap.size 28 (wv l)) (b3 : Has w1 (w.heap.size + 2) 28 (wv (List.replicate 8 0))) (b4 : Below w.heap.size w w1) (ho : Ow w A 64 c (K.map vu)) :
    RP K l s w w1.heap.size A c l ((((w1.alloc (.cells (wv (List.replicate 64 0)) 25)).setRow w1.heap.size (wv s)).alloc (.cells zero8 28)).setRow (w1.heap.size + 1) (wv l)) := by
  have hlt := b1.lt
  have hlt3 := b3.lt
  have hb : Below w.heap.size w ((((w1.alloc (.cells (wv (List.replicate 64 0)) 25)).setRow w1.heap.size (wv s)).alloc (.cells zero8 28)).setRow (w1.heap.size + 1) (wv l)) :=
    below_row ((below_row (b4.alloc b4.size _) b4.size _).alloc (by simp; have := b4.size; omega) _) (by have := b4.size; omega) _
  refine ⟨?_, ?_, ?_, ?_, by omega, ho.below hb (Nat.le_refl _), hb⟩
  · exact ((RP.start1 b1).alloc _).rowfar (by omega) _
  · exact (((b3.alloc _).rowfar (by omega) _).alloc _).rowfar (by omega) _
  · exact ((Has.row (Has.new _ _ (wv (List.replicate 64 0)) _ rfl) _).alloc _).rowfar (by omega) _
  · exact Has.row (Has.new _ _ zero8 _ (by simp)) _
theorem vu_at (l : List (BitVec 32)) (j : Nat) (h : j < l.length) : (l.map vu)[j]? = some (.int .u32 (un (gw l j))) := by simp [gw, h]

theorem sched_named (b : List (BitVec 8)) (hb : b.length = 64) : ∃ s, sched b 64 = s ∧ s.length = 64 ∧ ∀ w : World, Calls Tryd.prog 19 #[.agg (bv b)] w fun e w' => e = .returned (.agg (wv s)) ∧ Below w.heap.size w w' :=
  ⟨_, rfl, sched_len _ _, fun w => refSchedule_any b w hb⟩
theorem pr_succ (K : List (BitVec 32)) (b : List (BitVec 8)) (v s : List (BitVec 32)) (hs : sched b 64 = s) (k : Nat) : pr K b v (k + 1) = round (pr K b v k) (gw s k + gw K k) := by subst hs; rfl

set_option maxHeartbeats 2000000 in
theorem refPress_any (A : Option Addr) (c : Nat) (K l : List (BitVec 32)) (b : List (BitVec 8)) (w : World) (hkl : K.length = 64) (hk : Ow w A 64 c (K.map vu)) (hl : l.length = 8) (hb : b.length = 64) :
    Calls Tryd.prog 23 #[.slice A 64 c, .agg (wv l), .agg (bv b)] w fun e w' => e = .returned (.agg (wv (press K b l))) ∧ Below w.heap.size w w' := by
  have H := Hd.mk hl
  have HB := Hd.mk hb
  have HK := Hd.mk hk
  have HKL := Hd.mk hkl
  obtain ⟨gk, hA, hcells⟩ := hk.2.2 (by decide)
  subst hA
  clear hl hb hk hkl hcells
  rw [press_def]
  go_enter Tryd.func23, Tryd.ntmps23
  have a1 : Has (((w.alloc (.cells (wv l) 28)).alloc (.cells (bv b) 22)).alloc (.cells zero8 28)) w.heap.size 28 (wv l) := ((Has.new _ _ _ _ rfl).alloc _).alloc _
  have a2 : Has (((w.alloc (.cells (wv l) 28)).alloc (.cells (bv b) 22)).alloc (.cells zero8 28)) (w.heap.size + 1) 22 (bv b) := (Has.new _ _ _ _ (by simp)).alloc _
  have a3 : Has (((w.alloc (.cells (wv l) 28)).alloc (.cells (bv b) 22)).alloc (.cells zero8 28)) (w.heap.size + 2) 28 (wv (List.replicate 8 0)) := Has.new _ _ _ _ (by simp)
  have a4 : Below w.heap.size w (((w.alloc (.cells (wv l) 28)).alloc (.cells (bv b) 22)).alloc (.cells zero8 28)) := (((Below.refl _ _).alloc (Nat.le_refl _) _).alloc (by simp) _).alloc (by simp; omega) _
  have A1 := Hd.mk a1
  have A2 := Hd.mk a2
  have A3 := Hd.mk a3
  have A4 := Hd.mk a4
  clear a1 a2 a3 a4
  obtain ⟨s, hs, hsl, hsch⟩ := sched_named b HB.out
  have hpr := pr_succ K b l s hs
  have HPR := Hd.mk hpr
  have HSL := Hd.mk hsl
  clear hs hsl hpr
  go_wp2_with (first | (refine wpList_load_row rfl 22 _ rfl (w.heap.size + 1) rfl 22 (bv b) (0, 0) _ A2.out Tryd.underlying22 rfl (szB64 _ HB.out) ?_) | fail)
  refine (hsch _).mono ?_
  rintro e w1 ⟨rfl, hb1⟩
  have b1 := A1.out.below hb1 A1.out.lt
  have b3 := A3.out.below hb1 A3.out.lt
  have b4 := A4.out.trans (hb1.mono A4.out.size)
  have hsz := Nat.le_trans A3.out.lt hb1.size
  clear A1 A2 A3 A4 hb1 hsch
  have C1 := RP.start1 (s := s) b1
  have C := Hd.mk (RP.start K l s b1 b3 b4 HK.out)
  have C2 := Hd.mk C1
  clear b1 b3 b4 C1
  go_wp2_with (first | (refine wpList_store_row rfl 25 _ _ rfl w1.heap.size (wv s) rfl rfl 25 (wv (List.replicate 64 0)) (Has.new _ _ _ _ rfl) (szW64 _ HSL.out) (by rw [wv_size, wv_size, HSL.out]; rfl) (wv_one _) ?_) | (refine wpList_load_row rfl 28 _ rfl w.heap.size rfl 28 (wv l) (0, 0) _ C2.out Tryd.underlying28 rfl (szW8 _ H.out) ?_) | (refine wpList_store_row rfl 28 _ _ rfl (w1.heap.size + 1) (wv l) rfl rfl 28 (wv (List.replicate 8 0)) (Has.new _ _ _ _ (by simp)) (szW8 _ H.out) (by rw [wv_size, wv_size, H.out]; rfl) (wv_one _) ?_) | fail)
  clear C2
  go_loopw [9] (fun i wr => ∃ k : Nat, k ≤ 64 ∧ i = .int .i64 k ∧ RP K l s w w1.heap.size (some ⟨gk, 0, none⟩) c (pr K b l k) wr) (fun i _ => 64 - (intOf i).toNat)
  case atStart => exact ⟨0, by omega, rfl, C.out⟩
  case round =>
    clear C
    obtain ⟨k, hk, rfl, hs⟩ := hrel
    by_cases hlt : k < 64
    · go_wp2
      refine wp_region_still_tail 9 (by kernel_rfl) (by kernel_rfl) ?_
      simp only [List.take_succ_cons, List.take_zero, List.drop_succ_cons, List.drop_zero]
      have hs2 : RP K l s w w1.heap.size (some ⟨gk, 0, none⟩) c (pr K b l k) wr.drew := hs.keep (Below.refl _ _).drew
      change wpStill _ _ wr.drew (fun a' => wpList _ _ _ _ a' wr.drew) _ _
      generalize wr.drew = wz at *
      clear hs
      obtain ⟨q, hq⟩ : ∃ q, pr K b l k = q := ⟨_, rfl⟩
      have hql : q.length = 8 := by rw [← hq]; exact pr_len _ _ _ H.out _
      have HQL := Hd.mk hql
      have hnx := HPR.out k
      rw [hq] at hnx hs2
      have HNX := Hd.mk hnx
      clear hnx hql hq
      obtain ⟨h1, h2, h3, h4, h5, h6, h7⟩ := hs2
      obtain ⟨gk', e1, hcells⟩ := h6.2.2 (by decide)
      obtain rfl : gk = gk' := by cases e1; rfl
      have ck := hcells k _ (vu_at K k (by rw [HKL.out]; exact hlt))
      have cs := (h3.cell k).trans (wv_at s k (by rw [HSL.out]; exact hlt))
      have hload := run_load_arr (P := Tryd.prog) wz 28 24 8 (w1.heap.size + 1) (wv q) Tryd.underlying28 (szW8 _ HQL.out) (fun j v hv => (h4.cell j).trans hv)
      have bk : (k : Int) < 64 := by omega
      have R2 : RP K l s w w1.heap.size (some ⟨gk, 0, none⟩) c q wz := ⟨h1, h2, h3, h4, h5, h6, h7⟩
      have HR2 := Hd.mk R2
      clear h1 h2 h3 h4 h5 h6 h7 R2 e1 hcells
      refine wpStill_load_row rfl 28 _ rfl ⟨w1.heap.size + 1, 0, none⟩ rfl _ hload ?_
      clear hload
      repeat still_step
      refine wpStill_nil ?_
      go_wp2_with (first | (go_at_call 21; refine (refRound_any q _ _ HQL.out).mono ?_; rintro e w3 ⟨rfl, hb3⟩) | (refine wpList_store_row rfl 28 _ _ rfl (w1.heap.size + 1) _ rfl rfl 28 _ (HR2.out.keep hb3).2.2.2.1 (szW8 _ (round_len _ _)) (by rw [wv_size, wv_size, HQL.out]; rfl) (wv_one _) ?_) | fail)
      go_roundw
      case rel =>
        refine ⟨k + 1, by omega, by go_num, ?_⟩
        rw [HNX.out]
        exact (HR2.out.keep hb3).row HK.out _
      case measure => simp [intOf]; omega
    · obtain rfl : k = 64 := by omega
      rw [show ((64 : Nat) : Int) = (64 : Int) from rfl]
      obtain ⟨p, hp⟩ : ∃ p, pr K b l 64 = p := ⟨_, rfl⟩
      have hpl : p.length = 8 := by rw [← hp]; exact pr_len _ _ _ H.out _
      have HPL := Hd.mk hpl
      have HP := Hd.mk hp
      rw [hp] at hs
      clear hpl hp HPR
      go_wp2
      go_loopw [10] (fun i wr => ∃ k : Nat, k ≤ 8 ∧ i = .int .i64 k ∧ RP K l s w w1.heap.size (some ⟨gk, 0, none⟩) c (addL p l k) wr) (fun i _ => 8 - (intOf i).toNat)
      case atStart => exact ⟨0, by omega, rfl, hs⟩
      case round =>
        clear hs
        obtain ⟨k, hk, rfl, hs⟩ := hrel
        have hlen := addL_len p l HPL.out k
        have HL := Hd.mk hlen
        clear hlen
        by_cases hlt : k < 8
        · go_wp2
          refine wp_region_still_tail 9 (by kernel_rfl) (by kernel_rfl) ?_
          simp only [List.take_succ_cons, List.take_zero, List.drop_succ_cons, List.drop_zero]
          have hs2 : RP K l s w w1.heap.size (some ⟨gk, 0, none⟩) c (addL p l k) wr.drew := hs.keep (Below.refl _ _).drew
          change wpStill _ _ wr.drew (fun a' => wpList _ _ _ _ a' wr.drew) _ _
          generalize wr.drew = wz at *
          clear hs
          have c1 := (hs2.2.2.2.1.cell k).trans (wv_at _ k (by rw [HL.out]; exact hlt))
          have c2 := (hs2.1.cell k).trans (wv_at _ k (by rw [H.out]; exact hlt))
          have f1 := hs2.2.2.2.1.frozen k
          have bk : (k : Int) < 8 := by omega
          have HS2 := Hd.mk hs2
          clear hs2
          repeat still_step
          refine wpStill_nil ?_
          go_wp2
          go_roundw
          case rel => exact ⟨k + 1, by omega, by go_num, HS2.out.set HK.out k _⟩
          case measure => simp [intOf]; omega
        · obtain rfl : k = 8 := by omega
          obtain ⟨r, hr⟩ : ∃ r, addL p l 8 = r := ⟨_, rfl⟩
          have hres : addL (pr K b l 64) l 8 = r := by rw [HP.out]; exact hr
          have hlr := HL.out
          rw [hr] at hs hlr
          have HR := Hd.mk hres
          have HLR := Hd.mk hlr
          obtain ⟨h1, h2, h3, h4, h5, h6, h7⟩ := hs
          have H7 := Hd.mk h7
          clear HP HL hr hres hlr h1 h3 h6 h7 HK
          go_wp2_with (first | (refine wpList_load_row rfl 28 _ rfl (w1.heap.size + 1) rfl 28 _ (0, 0) _ h4 Tryd.underlying28 rfl (szW8 _ HLR.out) ?_) | (refine wpList_store_row rfl 28 _ _ rfl (w.heap.size + 2) _ rfl rfl 28 _ h2 (szW8 _ HLR.out) (by rw [wv_size, wv_size, HLR.out]; rfl) (wv_one _) ?_) | fail)
          refine bodyPost_ret (v := .agg (wv r)) ?_ rfl ⟨?_, ?_⟩
          · exact results_cell_row rfl _ _ (w.heap.size + 2) 28 _ (0, 0) _ rfl (h2.row _) Tryd.underlying28 rfl (szW8 _ HLR.out)
          · rw [HR.out]
          · exact below_row H7.out (by omega) _
end Go.Proofs.YtkjfhgbpiogigaaDoor
