/-
  The walk of the reference's Press.
  The reference's way through the blocks is the code's: bytes and tail in one row, or the whole blocks first.
  The walk of the reference's Made.
  Single operations of a region that draws its order, once more: places, loads of a cell, sums; append of a few bytes.
-/
import Derived.Test.YticggkllfojgkaaGreatDoorM25
import Derived.Test.YticggkllfojgkaaGreatDoorM26
import Derived.Test.YticggkllfojgkaaGreatDoorM21
import Derived.Test.YticggkllfojgkaaGreatDoorM1
namespace Go.Proofs.YticggkllfojgkaaGreatDoor
open Go Go.RowKit
set_option maxRecDepth 4000

/-- a fact put aside: nothing opens it -/
structure Hd (p : Prop) : Prop where
  out : p
/-- what the loops of the reference's Press keep: the words, the result's cell, the schedule at g, the words so far behind it, the constants -/
def RP (K l s : List (BitVec 32)) (w : World) (g : Nat) (A : Option Addr) (c : Nat) (p : List (BitVec 32)) (wr : World) : Prop :=
  Has wr w.heap.size 63 (wv l) ∧ Has wr (w.heap.size + 2) 63 (wv (List.replicate 8 0)) ∧ Has wr g 109 (wv s) ∧ Has wr (g + 1) 63 (wv p) ∧ w.heap.size + 3 ≤ g ∧ Ow wr A 64 c (K.map vu) ∧ Below w.heap.size w wr
section
variable {K l s : List (BitVec 32)} {w wr w1 : World} {g c : Nat} {A : Option Addr} {p : List (BitVec 32)}
theorem RP.keep (h : RP K l s w g A c p wr) (hb : Below wr.heap.size wr w1) : RP K l s w g A c p w1 := by
  obtain ⟨h1, h2, h3, h4, h5, h6, h7⟩ := h
  exact ⟨h1.below hb h1.lt, h2.below hb h2.lt, h3.below hb h3.lt, h4.below hb h4.lt, h5, h6.keep hb, h7.trans (hb.mono h7.size)⟩
end
theorem Ow.below {w w' : World} {A : Option Addr} {n c : Nat} {xs : List Value} {B : Nat} (h : Ow w A n c xs) (hb : Below B w w') (hB : w.heap.size ≤ B) : Ow w' A n c xs := by
  refine ⟨h.1, h.2.1, fun hn => ?_⟩
  obtain ⟨g, e, hc⟩ := h.2.2 hn
  exact ⟨g, e, fun j x hx => (hb.cell (p := ⟨g, j, none⟩) (Nat.lt_of_lt_of_le (block_lt_of_cell (hc j x hx)) hB)).trans (hc j x hx)⟩
section
variable {K l s : List (BitVec 32)} {w wr : World} {g c : Nat} {A : Option Addr} {p : List (BitVec 32)}
theorem RP.row (h : RP K l s w g A c p wr) (ho : Ow w A 64 c (K.map vu)) (q : List (BitVec 32)) : RP K l s w g A c q (wr.setRow (g + 1) (wv q)) := by
  obtain ⟨h1, h2, h3, h4, h5, h6, h7⟩ := h
  have hb : Below w.heap.size w (wr.setRow (g + 1) (wv q)) := below_row h7 (by omega) _
  exact ⟨h1.rowfar (by omega) _, h2.rowfar (by omega) _, h3.rowfar (by omega) _, h4.row _, h5, ho.below hb (Nat.le_refl _), hb⟩
theorem RP.set (h : RP K l s w g A c p wr) (ho : Ow w A 64 c (K.map vu)) (k : Nat) (x : BitVec 32) : RP K l s w g A c (p.set k x) (wr.setCell ⟨g + 1, k, none⟩ (.int .u32 (un x))) := by
  obtain ⟨h1, h2, h3, h4, h5, h6, h7⟩ := h
  have hb : Below w.heap.size w (wr.setCell ⟨g + 1, k, none⟩ (.int .u32 (un x))) := h7.setCell (p := ⟨g + 1, k, none⟩) (show w.heap.size ≤ g + 1 by omega) _
  exact ⟨h1.far (show w.heap.size ≠ g + 1 by omega) _, h2.far (show w.heap.size + 2 ≠ g + 1 by omega) _, h3.far (show g ≠ g + 1 by omega) _, by have := h4.set k (.int .u32 (un x)); rw [wv_set] at this; exact this, h5, ho.below hb (Nat.le_refl _), hb⟩
end
theorem RP.start1 {l s : List (BitVec 32)} {w w1 : World} (b1 : Has w1 w.heap.size 63 (wv l)) :
    Has ((w1.alloc (.cells (wv (List.replicate 64 0)) 109)).setRow w1.heap.size (wv s)) w.heap.size 63 (wv l) := by
  have hlt := b1.lt
  exact (b1.alloc _).rowfar (by omega) _
theorem RP.start (K l s : List (BitVec 32)) {w w1 : World} {A : Option Addr} {c : Nat} (b1 : Has w1 w.heap.size 63 (wv l)) (b3 : Has w1 (w.heap.size + 2) 63 (wv (List.replicate 8 0))) (b4 : Below w.heap.size w w1) (ho : Ow w A 64 c (K.map vu)) :
    RP K l s w w1.heap.size A c l ((((w1.alloc (.cells (wv (List.replicate 64 0)) 109)).setRow w1.heap.size (wv s)).alloc (.cells zero8 63)).setRow (w1.heap.size + 1) (wv l)) := by
  have hlt := b1.lt
  have hlt3 := b3.lt
  have hb : Below w.heap.size w ((((w1.alloc (.cells (wv (List.replicate 64 0)) 109)).setRow w1.heap.size (wv s)).alloc (.cells zero8 63)).setRow (w1.heap.size + 1) (wv l)) :=
    below_row ((below_row (b4.alloc b4.size _) b4.size _).alloc (by simp; have := b4.size; omega) _) (by have := b4.size; omega) _
  refine ⟨?_, ?_, ?_, ?_, by omega, ho.below hb (Nat.le_refl _), hb⟩
  · exact ((RP.start1 b1).alloc _).rowfar (by omega) _
  · exact (((b3.alloc _).rowfar (by omega) _).alloc _).rowfar (by omega) _
  · exact ((Has.row (Has.new _ _ (wv (List.replicate 64 0)) _ rfl) _).alloc _).rowfar (by omega) _
  · exact Has.row (Has.new _ _ zero8 _ (by simp)) _
theorem vu_at (l : List (BitVec 32)) (j : Nat) (h : j < l.length) : (l.map vu)[j]? = some (.int .u32 (un (gw l j))) := by simp [gw, h]

theorem sched_named (b : List (BitVec 8)) (hb : b.length = 64) : ∃ s, sched b 64 = s ∧ s.length = 64 ∧ ∀ w : World, Calls Tryz.prog 80 #[.agg (bv b)] w fun e w' => e = .returned (.agg (wv s)) ∧ Below w.heap.size w w' :=
  ⟨_, rfl, sched_len _ _, fun w => refSchedule_any b w hb⟩
theorem pr_succ (K : List (BitVec 32)) (b : List (BitVec 8)) (v s : List (BitVec 32)) (hs : sched b 64 = s) (k : Nat) : pr K b v (k + 1) = round (pr K b v k) (gw s k + gw K k) := by subst hs; rfl

set_option maxHeartbeats 2000000 in
theorem refPress_any (A : Option Addr) (c : Nat) (K l : List (BitVec 32)) (b : List (BitVec 8)) (w : World) (hkl : K.length = 64) (hk : Ow w A 64 c (K.map vu)) (hl : l.length = 8) (hb : b.length = 64) :
    Calls Tryz.prog 57 #[.slice A 64 c, .agg (wv l), .agg (bv b)] w fun e w' => e = .returned (.agg (wv (press K b l))) ∧ Below w.heap.size w w' := by
  have H := Hd.mk hl
  have HB := Hd.mk hb
  have HK := Hd.mk hk
  have HKL := Hd.mk hkl
  obtain ⟨gk, hA, hcells⟩ := hk.2.2 (by decide)
  subst hA
  clear hl hb hk hkl hcells
  rw [press_def]
  go_enter Tryz.func57, Tryz.ntmps57
  have a1 : Has (((w.alloc (.cells (wv l) 63)).alloc (.cells (bv b) 88)).alloc (.cells zero8 63)) w.heap.size 63 (wv l) := ((Has.new _ _ _ _ rfl).alloc _).alloc _
  have a2 : Has (((w.alloc (.cells (wv l) 63)).alloc (.cells (bv b) 88)).alloc (.cells zero8 63)) (w.heap.size + 1) 88 (bv b) := (Has.new _ _ _ _ (by simp)).alloc _
  have a3 : Has (((w.alloc (.cells (wv l) 63)).alloc (.cells (bv b) 88)).alloc (.cells zero8 63)) (w.heap.size + 2) 63 (wv (List.replicate 8 0)) := Has.new _ _ _ _ (by simp)
  have a4 : Below w.heap.size w (((w.alloc (.cells (wv l) 63)).alloc (.cells (bv b) 88)).alloc (.cells zero8 63)) := (((Below.refl _ _).alloc (Nat.le_refl _) _).alloc (by simp) _).alloc (by simp; omega) _
  have A1 := Hd.mk a1
  have A2 := Hd.mk a2
  have A3 := Hd.mk a3
  have A4 := Hd.mk a4
  clear a1 a2 a3 a4
  obtain ⟨s, hs, hsl, hsch⟩ := sched_named b HB.out
  have hpr := pr_succ K b l s hs
  have HPR := Hd.mk hpr
  have HSL := Hd.mk hsl
  clear hs hsl hpr
  go_wp2_with (first | (refine wpList_load_row rfl 88 _ rfl (w.heap.size + 1) rfl 88 (bv b) (0, 0) _ A2.out Tryz.underlying88 rfl (szB64 _ HB.out) ?_) | fail)
  refine (hsch _).mono ?_
  rintro e w1 ⟨rfl, hb1⟩
  have b1 := A1.out.below hb1 A1.out.lt
  have b3 := A3.out.below hb1 A3.out.lt
  have b4 := A4.out.trans (hb1.mono A4.out.size)
  have hsz := Nat.le_trans A3.out.lt hb1.size
  clear A1 A2 A3 A4 hb1 hsch
  have C1 := RP.start1 (s := s) b1
  have C := Hd.mk (RP.start K l s b1 b3 b4 HK.out)
  have C2 := Hd.mk C1
  clear b1 b3 b4 C1
  go_wp2_with (first | (refine wpList_store_row rfl 109 _ _ rfl w1.heap.size (wv s) rfl rfl 109 (wv (List.replicate 64 0)) (Has.new _ _ _ _ rfl) (szW64 _ HSL.out) (by rw [wv_size, wv_size, HSL.out]; rfl) (wv_one _) ?_) | (refine wpList_load_row rfl 63 _ rfl w.heap.size rfl 63 (wv l) (0, 0) _ C2.out Tryz.underlying63 rfl (szW8 _ H.out) ?_) | (refine wpList_store_row rfl 63 _ _ rfl (w1.heap.size + 1) (wv l) rfl rfl 63 (wv (List.replicate 8 0)) (Has.new _ _ _ _ (by simp)) (szW8 _ H.out) (by rw [wv_size, wv_size, H.out]; rfl) (wv_one _) ?_) | fail)
  clear C2
  go_loopw [9] (fun i wr => ∃ k : Nat, k ≤ 64 ∧ i = .int .i64 k ∧ RP K l s w w1.heap.size (some ⟨gk, 0, none⟩) c (pr K b l k) wr) (fun i _ => 64 - (intOf i).toNat)
  case atStart => exact ⟨0, by omega, rfl, C.out⟩
  case round =>
    clear C
    obtain ⟨k, hk, rfl, hs⟩ := hrel
    by_cases hlt : k < 64
    · go_wp2
      refine wp_region_still_tail 9 (by kernel_rfl) (by kernel_rfl) ?_
      simp only [List.take_succ_cons, List.take_zero, List.drop_succ_cons, List.drop_zero]
      have hs2 : RP K l s w w1.heap.size (some ⟨gk, 0, none⟩) c (pr K b l k) wr.drew := hs.keep (Below.refl _ _).drew
      change wpStill _ _ wr.drew (fun a' => wpList _ _ _ _ a' wr.drew) _ _
      generalize wr.drew = wz at *
      clear hs
      obtain ⟨q, hq⟩ : ∃ q, pr K b l k = q := ⟨_, rfl⟩
      have hql : q.length = 8 := by rw [← hq]; exact pr_len _ _ _ H.out _
      have HQL := Hd.mk hql
      have hnx := HPR.out k
      rw [hq] at hnx hs2
      have HNX := Hd.mk hnx
      clear hnx hql hq
      obtain ⟨h1, h2, h3, h4, h5, h6, h7⟩ := hs2
      obtain ⟨gk', e1, hcells⟩ := h6.2.2 (by decide)
      obtain rfl : gk = gk' := by cases e1; rfl
      have ck := hcells k _ (vu_at K k (by rw [HKL.out]; exact hlt))
      have cs := (h3.cell k).trans (wv_at s k (by rw [HSL.out]; exact hlt))
      have hload := run_load_arr (P := Tryz.prog) wz 63 50 8 (w1.heap.size + 1) (wv q) Tryz.underlying63 (szW8 _ HQL.out) (fun j v hv => (h4.cell j).trans hv)
      have bk : (k : Int) < 64 := by omega
      have R2 : RP K l s w w1.heap.size (some ⟨gk, 0, none⟩) c q wz := ⟨h1, h2, h3, h4, h5, h6, h7⟩
      have HR2 := Hd.mk R2
      clear h1 h2 h3 h4 h5 h6 h7 R2 e1 hcells
      refine wpStill_load_row rfl 63 _ rfl ⟨w1.heap.size + 1, 0, none⟩ rfl _ hload ?_
      clear hload
      repeat still_step
      refine wpStill_nil ?_
      go_wp2_with (first | (go_at_call 81; refine (refRound_any q _ _ HQL.out).mono ?_; rintro e w3 ⟨rfl, hb3⟩) | (refine wpList_store_row rfl 63 _ _ rfl (w1.heap.size + 1) _ rfl rfl 63 _ (HR2.out.keep hb3).2.2.2.1 (szW8 _ (round_len _ _)) (by rw [wv_size, wv_size, HQL.out]; rfl) (wv_one _) ?_) | fail)
      go_roundw
      case rel =>
        refine ⟨k + 1, by omega, by go_num, ?_⟩
        rw [HNX.out]
        exact (HR2.out.keep hb3).row HK.out _
      case measure => simp [intOf]; omega
    · obtain rfl : k = 64 := by omega
      rw [show ((64 : Nat) : Int) = (64 : Int) from rfl]
      obtain ⟨p, hp⟩ : ∃ p, pr K b l 64 = p := ⟨_, rfl⟩
      have hpl : p.length = 8 := by rw [← hp]; exact pr_len _ _ _ H.out _
      have HPL := Hd.mk hpl
      have HP := Hd.mk hp
      rw [hp] at hs
      clear hpl hp HPR
      go_wp2
      go_loopw [10] (fun i wr => ∃ k : Nat, k ≤ 8 ∧ i = .int .i64 k ∧ RP K l s w w1.heap.size (some ⟨gk, 0, none⟩) c (addL p l k) wr) (fun i _ => 8 - (intOf i).toNat)
      case atStart => exact ⟨0, by omega, rfl, hs⟩
      case round =>
        clear hs
        obtain ⟨k, hk, rfl, hs⟩ := hrel
        have hlen := addL_len p l HPL.out k
        have HL := Hd.mk hlen
        clear hlen
        by_cases hlt : k < 8
        · go_wp2
          refine wp_region_still_tail 9 (by kernel_rfl) (by kernel_rfl) ?_
          simp only [List.take_succ_cons, List.take_zero, List.drop_succ_cons, List.drop_zero]
          have hs2 : RP K l s w w1.heap.size (some ⟨gk, 0, none⟩) c (addL p l k) wr.drew := hs.keep (Below.refl _ _).drew
          change wpStill _ _ wr.drew (fun a' => wpList _ _ _ _ a' wr.drew) _ _
          generalize wr.drew = wz at *
          clear hs
          have c1 := (hs2.2.2.2.1.cell k).trans (wv_at _ k (by rw [HL.out]; exact hlt))
          have c2 := (hs2.1.cell k).trans (wv_at _ k (by rw [H.out]; exact hlt))
          have f1 := hs2.2.2.2.1.frozen k
          have bk : (k : Int) < 8 := by omega
          have HS2 := Hd.mk hs2
          clear hs2
          repeat still_step
          refine wpStill_nil ?_
          go_wp2
          go_roundw
          case rel => exact ⟨k + 1, by omega, by go_num, HS2.out.set HK.out k _⟩
          case measure => simp [intOf]; omega
        · obtain rfl : k = 8 := by omega
          obtain ⟨r, hr⟩ : ∃ r, addL p l 8 = r := ⟨_, rfl⟩
          have hres : addL (pr K b l 64) l 8 = r := by rw [HP.out]; exact hr
          have hlr := HL.out
          rw [hr] at hs hlr
          have HR := Hd.mk hres
          have HLR := Hd.mk hlr
          obtain ⟨h1, h2, h3, h4, h5, h6, h7⟩ := hs
          have H7 := Hd.mk h7
          clear HP HL hr hres hlr h1 h3 h6 h7 HK
          go_wp2_with (first | (refine wpList_load_row rfl 63 _ rfl (w1.heap.size + 1) rfl 63 _ (0, 0) _ h4 Tryz.underlying63 rfl (szW8 _ HLR.out) ?_) | (refine wpList_store_row rfl 63 _ _ rfl (w.heap.size + 2) _ rfl rfl 63 _ h2 (szW8 _ HLR.out) (by rw [wv_size, wv_size, HLR.out]; rfl) (wv_one _) ?_) | fail)
          refine bodyPost_ret (v := .agg (wv r)) ?_ rfl ⟨?_, ?_⟩
          · exact results_cell_row rfl _ _ (w.heap.size + 2) 63 _ (0, 0) _ rfl (h2.row _) Tryz.underlying63 rfl (szW8 _ HLR.out)
          · rw [HR.out]
          · exact below_row H7.out (by omega) _
end Go.Proofs.YticggkllfojgkaaGreatDoor
namespace Go.Proofs.YticggkllfojgkaaGreatDoor
open Go
set_option maxRecDepth 4000

theorem blk_left (x y : List (BitVec 8)) (k : Nat) (h : 64 * k + 64 ≤ x.length) : blk (x ++ y) k = blk x k := by
  unfold blk
  rw [List.drop_append_of_le_length (by omega), List.take_append_of_le_length (by rw [List.length_drop]; omega)]
theorem blk_right (x y : List (BitVec 8)) (q j : Nat) (h : x.length = 64 * q) : blk (x ++ y) (q + j) = blk y j := by
  unfold blk
  rw [show 64 * (q + j) = x.length + 64 * j by omega, List.drop_length_add_append]
theorem pa_left (K : List (BitVec 32)) (x y : List (BitVec 8)) (v : List (BitVec 32)) (i : Nat) (h : 64 * i ≤ x.length) : pa K (x ++ y) v i = pa K x v i := by
  induction i with
  | zero => rfl
  | succ i ih => rw [pa, pa, ih (by omega), blk_left _ _ _ (by omega)]
theorem pa_split (K : List (BitVec 32)) (x y : List (BitVec 8)) (v : List (BitVec 32)) (q j : Nat) (h : x.length = 64 * q) : pa K (x ++ y) v (q + j) = pa K y (pa K x v q) j := by
  induction j with
  | zero => exact pa_left K x y v q (by omega)
  | succ j ih => rw [← Nat.add_assoc, pa, pa, ih, blk_right _ _ _ _ h]
/-- bytes and tail -/
def allL (l : List (BitVec 8)) : List (BitVec 8) := l ++ tailTo l.length 8
theorem allL_len (l : List (BitVec 8)) : (allL l).length = l.length + tailLen l.length := by simp [allL, tailTo_len]
theorem allL_64 (l : List (BitVec 8)) : (allL l).length = 64 * ((allL l).length / 64) := by
  rw [allL_len]; unfold tailLen; omega
theorem pa_all (K H : List (BitVec 32)) (l : List (BitVec 8)) : pa K (allL l) H ((allL l).length / 64) = digW K H l := by
  unfold digW
  have hx : (l.take (64 * (l.length / 64))).length = 64 * (l.length / 64) := by rw [List.length_take]; omega
  have he : allL l = l.take (64 * (l.length / 64)) ++ endL l := by
    unfold allL endL; rw [← List.append_assoc, List.take_append_drop]
  have hn : (allL l).length / 64 = l.length / 64 + (endL l).length / 64 := by
    rw [allL_len, endL_len]; unfold tailLen; omega
  rw [hn, he, pa_split K _ _ H (l.length / 64) _ hx, show 64 * (l.length / 64) / 64 = l.length / 64 by omega]
/-- a block as it grows in place -/
def btTo (L : List (BitVec 8)) (k : Nat) : Nat → List (BitVec 8)
  | 0 => zb 64
  | i + 1 => (btTo L k i).set i (gb L (64 * k + i))
theorem btTo_len (L : List (BitVec 8)) (k i : Nat) : (btTo L k i).length = 64 := by
  induction i with
  | zero => rfl
  | succ i ih => simp [btTo, ih]
theorem btTo_succ (L : List (BitVec 8)) (k i : Nat) : btTo L k (i + 1) = (btTo L k i).set i (gb L (64 * k + i)) := rfl
theorem btTo_gb (L : List (BitVec 8)) (k i j : Nat) (hj : j < i) (hi : i ≤ 64) : (btTo L k i)[j]? = some (gb L (64 * k + j)) := by
  induction i with
  | zero => omega
  | succ i ih =>
    rw [btTo, List.getElem?_set]
    by_cases e : i = j
    · subst e
      rw [if_pos rfl, if_pos (by rw [btTo_len]; omega)]
    · rw [if_neg e]
      exact ih (by omega) (by omega)
theorem btTo_blk (L : List (BitVec 8)) (k : Nat) (h : 64 * k + 64 ≤ L.length) : btTo L k 64 = blk L k := by
  apply List.ext_getElem?
  intro j
  by_cases hj : j < 64
  · rw [btTo_gb L k 64 j hj (Nat.le_refl _)]
    unfold blk gb
    rw [List.getElem?_take_of_lt hj, List.getElem?_drop, List.getD_eq_getElem?_getD, List.getElem?_eq_getElem (by omega)]
    rfl
  · rw [List.getElem?_eq_none (by rw [btTo_len]; omega), List.getElem?_eq_none (by rw [blk_len _ _ h]; omega)]
end Go.Proofs.YticggkllfojgkaaGreatDoor
namespace Go.Proofs.YticggkllfojgkaaGreatDoor
open Go Go.RowKit
set_option maxRecDepth 4000

/-- the reference's tables as a value: nine cells -/
def tab (A : Option Addr) (c : Nat) (H : List (BitVec 32)) : Array Value :=
  #[.slice A 64 c, .int .u32 (un (gw H 0)), .int .u32 (un (gw H 1)), .int .u32 (un (gw H 2)), .int .u32 (un (gw H 3)), .int .u32 (un (gw H 4)), .int .u32 (un (gw H 5)), .int .u32 (un (gw H 6)), .int .u32 (un (gw H 7))]
theorem own_rowfar {w : World} {base e n g : Nat} {v : Value} {xs : List Value} (h : w.ownsRow base e 1 v n xs) (hg : g < base) (cs : Array Value) : (w.setRow g cs).ownsRow base e 1 v n xs := by
  refine ⟨h.1, ?_⟩
  rcases h.2 with h2 | ⟨g', cap, cur, h1, h3, h4, h5⟩
  · exact .inl h2
  · exact .inr ⟨g', cap, cur, h1, h3, (setRow_other w g g' cs (by omega)).trans h4, h5⟩
theorem tab_one (A : Option Addr) (c : Nat) (H : List (BitVec 32)) : (tab A c H).all (·.oneCell') = true := by simp [tab, Value.oneCell']
theorem tab_size (A : Option Addr) (c : Nat) (H : List (BitVec 32)) : (Tryz.prog.info? 65).map (·.size) = some (tab A c H).size := by
  rw [show (tab A c H).size = 9 from rfl]; kernel_rfl
abbrev zero9 : Array Value := #[.slice none 0 0, .int .u32 0, .int .u32 0, .int .u32 0, .int .u32 0, .int .u32 0, .int .u32 0, .int .u32 0, .int .u32 0]

set_option maxHeartbeats 2000000 in
theorem Made_gen (K H : List (BitVec 32)) (hH : H.length = 8) (hC : ∀ w : World, Calls Tryz.prog 54 #[] w fun e w' => ∃ v, e = .returned v ∧ w'.ownsRow w.heap.size 50 1 v 64 (K.map vu) ∧ Below w.heap.size w w')
    (hB : ∀ w : World, Calls Tryz.prog 55 #[] w fun e w' => e = .returned (.agg (wv H)) ∧ Below w.heap.size w w') (w : World) :
    Calls Tryz.prog 32 #[] w fun e w' => ∃ A c, e = .returned (.agg (tab A c H)) ∧ Ow w' A 64 c (K.map vu) ∧ Below w.heap.size w w' := by
  have HC := Hd.mk hC
  have HB := Hd.mk hB
  have HW8 := Hd.mk (wv8 H hH)
  clear hC hB hH
  go_enter Tryz.func32, Tryz.ntmps32
  have h0 : Has (w.alloc (.cells zero9 65)) w.heap.size 65 zero9 := Has.new _ _ _ _ rfl
  have hb0 : Below w.heap.size w (w.alloc (.cells zero9 65)) := (Below.refl _ _).alloc (Nat.le_refl _) _
  go_wp2_with fail
  refine (HC.out _).mono ?_
  rintro e w1 ⟨v, rfl, hown, hb1⟩
  obtain ⟨A, c, rfl, _⟩ := Ow.of_own hown
  have h1 := h0.below hb1 h0.lt
  have hb01 := hb0.trans (hb1.mono hb0.size)
  clear h0 hb0 hb1
  go_wp2_with fail
  refine (HB.out _).mono ?_
  rintro e w2 ⟨rfl, hb2⟩
  have h2 := h1.below hb2 h1.lt
  have hb02 := hb01.trans (hb2.mono hb01.size)
  have hown2 := own_below hown hb2
  clear h1 hb01 hb2 hown
  rw [HW8.out]
  have HH2 := Hd.mk h2
  go_wp2_with (first | (refine wpList_store_row rfl 65 _ _ rfl w.heap.size (tab A c H) rfl rfl 65 zero9 HH2.out (tab_size A c H) rfl (tab_one A c H) ?_) | fail)
  refine bodyPost_ret (v := .agg (tab A c H)) ?_ rfl ⟨A, c, rfl, ?_, ?_⟩
  · exact results_cell_row rfl _ _ w.heap.size 65 _ (0, 0) _ rfl (h2.row _) Tryz.underlying65 rfl (tab_size A c H)
  · obtain ⟨A', c', e, how⟩ := Ow.of_own (own_rowfar (g := w.heap.size) hown2 (by simp) (tab A c H))
    cases e
    exact how
  · exact below_row hb02 (Nat.le_refl _) _
end Go.Proofs.YticggkllfojgkaaGreatDoor
namespace Go.Proofs.YticggkllfojgkaaGreatDoor
open Go Go.RowKit
set_option maxRecDepth 4000

/-- what is held may be said more narrowly from here on -/
theorem wpAnyH_weaken {P : Program} {md : Region.Mode} {ops : Array Oper} {Q : Exit → Act → World → Prop} {S S' : World → Prop} (h : ∀ w, S' w → S w) :
    ∀ (fuel : Nat) (listed : Array Bool) (a : Act) (w : World), wpAnyH P md ops Q S' fuel listed a w → wpAnyH P md ops Q S fuel listed a w
  | 0, _, _, _, H => H
  | fuel + 1, _, _, _, H => ⟨H.1, fun i hi => wpOp_mono (fun a' w' h' => ⟨h _ h'.1, wpAnyH_weaken h fuel _ a' w' h'.2⟩) (H.2 i hi)⟩
theorem exec_index {P : Program} {o : Oper} {a : Act} {w : World} (t : TypeId) (x y : Operand) (ho : o.op = .indexAddr t x y) (v vx vy : Value) (hx : a.eval x = vx) (hy : a.eval y = vy)
    (hr : (Instr.indexAt t vx vy).run P w = .ok v w) : (execOp a.eval o).run P w = .ok (.value v) w := by
  subst hx hy
  unfold execOp
  simp only [ho, Sem.run_bind, hr, Result.andThen_ok, Sem.run_pure]
theorem exec_bin {P : Program} {o : Oper} {a : Act} {w : World} (b : BinOp) (t t' : TypeId) (x y : Operand) (ho : o.op = .binOp b t x y t') (v vx vy : Value) (hx : a.eval x = vx) (hy : a.eval y = vy)
    (hg : (eqGuard b t x y vx vy).run P w = .ok () w) (hr : (binOp b t vx vy).run P w = .ok v w) : (execOp a.eval o).run P w = .ok (.value v) w := by
  subst hx hy
  unfold execOp
  simp only [ho, Sem.run_bind, hg, hr, Result.andThen_ok, Sem.run_pure]
/-- the place of a word in an array of eight -/
theorem place8 (w : World) (g j : Nat) (hj : j < 8) : (Instr.indexAt 63 (.pointer (some ⟨g, 0, none⟩)) (.int .i64 (j : Int))).run Tryz.prog w = .ok (.pointer (some ⟨g, j, none⟩)) w := by
  have bk : (j : Int) < 8 := by omega
  go_simp
theorem word_at {w : World} {g j : Nat} {x : BitVec 32} (h : w.cell? ⟨g, j, none⟩ = some (.int .u32 (un x))) : (Instr.loadAt 50 (.pointer (some ⟨g, j, none⟩))).run Tryz.prog w = .ok (.int .u32 (un x)) w := by
  go_simp
theorem wrap_un (x : BitVec 32) : IntKind.u32.wrap (un x) = un x := by
  have h0 := un_lo x
  have h1 := un_hi x
  rw [IntKind.wrap_u32]; omega
theorem quo24 (w : World) (x : BitVec 32) : (binOp .quo 50 (.int .u32 (un x)) (.int .u32 16777216)).run Tryz.prog w = .ok (.int .u32 (un (x >>> 24))) w := by
  have h0 := un_lo x
  have h1 := un_hi x
  go_simp
  rw [Int.tdiv_eq_ediv_of_nonneg h0, un_shr24, wrap_un]
theorem quo16 (w : World) (x : BitVec 32) : (binOp .quo 50 (.int .u32 (un x)) (.int .u32 65536)).run Tryz.prog w = .ok (.int .u32 (un (x >>> 16))) w := by
  have h0 := un_lo x
  have h1 := un_hi x
  go_simp
  rw [Int.tdiv_eq_ediv_of_nonneg h0, un_shr16, wrap_un]
theorem quo8 (w : World) (x : BitVec 32) : (binOp .quo 50 (.int .u32 (un x)) (.int .u32 256)).run Tryz.prog w = .ok (.int .u32 (un (x >>> 8))) w := by
  have h0 := un_lo x
  have h1 := un_hi x
  go_simp
  rw [Int.tdiv_eq_ediv_of_nonneg h0, un_shr8, wrap_un]
theorem conv8 (w : World) (x : BitVec 32) : (convert 50 5 (.int .u32 (un x))).run Tryz.prog w = .ok (.int .u8 (ub (b8 x))) w := by
  go_simp
  rw [IntKind.wrap_u8, un_b8]
/-- append a few bytes onto a row of the call's own, at a step of a region that draws its order -/
theorem wp_append_has {P : Program} {w : World} {o : Oper} {a : Act} {K : Act → World → Prop} {Q : Exit → Act → World → Prop} (s x : Operand) (t : TypeId)
    (ho : o.op = .call { callee := .builtin .append, args := #[s, x], argTypes := #[t, t] })
    (base : Nat) (e : TypeId) (ht : P.underlying t = some (.slice e)) (hi : (P.info? e).map (fun i => (i.zero, i.size, i.bytes)) = some (some (.int .u8 0), 1, 1))
    (v : Value) (n : Nat) (xs : List Value) (hs : a.eval s = v) (hown : w.ownsRow base e 1 v n xs)
    (g u : Nat) (l : List (BitVec 8)) (m : Nat) (hx : a.eval x = .slice (some ⟨g, 0, none⟩) m m) (hg : Has w g u (bv l)) (hm : l.length = m)
    (h47 : n + m ≤ 140737488355328) (hbase : base ≤ w.heap.size)
    (h : ∀ v' w', w'.ownsRow base e 1 v' (n + m) (xs ++ l.map vb) → w.grownBy w' v.ownBlock → K (a.put o.dst v') w') : o.wp P a w K Q := by
  obtain ⟨i, hi0, hz, hs1, hb⟩ := info_parts hi
  refine wp_append_own w s x t ho base e i (.int .u8 0) 1 1 ht hi0 hz hs1 hb rfl (by decide) v n xs hs hown ⟨g, 0, none⟩ m m (l.map vb) hx (by simp [hm]) ?_ ?_ (by unfold maxLen; omega) (by omega) hbase (fun v' w' h1 h2 _ => h v' w' h1 h2)
  · intro j q hq
    have hj : j < l.length := by
      have := (List.getElem?_eq_some_iff.1 hq).1
      simpa using this
    have hadd : (⟨g, 0, none⟩ : Addr).add j = ⟨g, j, none⟩ := by unfold Addr.add; split <;> simp_all
    rw [hadd, hg.cell j, bv_at l j hj, ← hq]
    simp [gb, hj]
  · intro q hq
    obtain ⟨b, _, rfl⟩ := List.mem_map.1 hq
    rfl
end Go.Proofs.YticggkllfojgkaaGreatDoor
