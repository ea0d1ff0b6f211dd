/-
  slices.Replace in a row without room.
-/
import Derived.Test.YthookcnkmlmgcaaDoorM14
namespace Go.Proofs.YthookcnkmlmgcaaDoor
open Go Go.RowKit
set_option maxRecDepth 4000

set_option maxHeartbeats 8000000 in
theorem Replace_grow {w : World} {g i k N c nv cv : Nat} {Av : Option Addr} {L lv : List (BitVec 8)} (ho : Own w 0 (.slice (some ⟨g, 0, none⟩) N c) N L) (hv : Bs w Av nv cv lv) (hn : 2 ≤ nv) (hn4 : nv ≤ 4) (hN : i + 1 + k = N) (hk : 0 < k) (hb : N ≤ 100000000000000) (hc : c < i + nv + k) :
    Calls Tryd.prog 64 #[.slice (some ⟨g, 0, none⟩) N c, .int .i64 (i : Int), .int .i64 ((i : Int) + 1), .slice Av nv cv] w (RepR w (.slice (some ⟨g, 0, none⟩) N c) (i + nv + k) (L.take i ++ lv ++ L.drop (i + 1))) := by
  obtain ⟨cur, hB, hcl, hNc, hcm, ht⟩ := ho.cells_
  have hLl := ho.len
  have hs1 := fun W => run_mid (P := Tryd.prog) g N c 29 5 Tryd.underlying29 szB i (i + 1) (i : Int) ((i : Int) + 1) rfl (by omega) (by omega) (by omega) (by omega) W
  have hs2 := fun W => run_upto (P := Tryd.prog) (some ⟨g, 0, none⟩) N c 29 5 Tryd.underlying29 szB i (i : Int) rfl (by omega) W
  have hs3 := fun W => run_from (P := Tryd.prog) (some ⟨g, 0, none⟩) N c 29 5 Tryd.underlying29 szB (i + 1) ((i : Int) + 1) (by omega) (by omega) W
  simp only [if_neg (show ¬ c = i + 1 by omega), Option.map_some, add_z, show N - (i + 1) = k by omega] at hs3
  have b1 : ((i : Int) == (i : Int) + 1) = false := beq_eq_false_iff_ne.2 (by omega)
  have b2 : ((i : Int) + 1 == (N : Int)) = false := beq_eq_false_iff_ne.2 (by omega)
  have b4 : IntKind.i64.wrap ((i : Int) + (nv : Int)) = (i : Int) + (nv : Int) := by rw [IntKind.wrap_i64]; omega
  have b5 : IntKind.i64.wrap ((i : Int) + (nv : Int) + (k : Int)) = ((i + nv + k : Nat) : Int) := by rw [IntKind.wrap_i64]; omega
  obtain ⟨T, hT⟩ : ∃ T, i + nv + k = T := ⟨_, rfl⟩
  rw [hT] at b5 ⊢
  have b6 : (c : Int) < (T : Int) := by omega
  have b7 : IntKind.i64.wrap ((T : Int) - (i : Int)) = ((nv + k : Nat) : Int) := by rw [IntKind.wrap_i64]; omega
  obtain ⟨Z, G, hz, hZG, hTG, hGm, hZt⟩ := run_zeros ((ho.take (show i ≤ N by omega)).ext ((by (repeat (first | assumption | exact Ext.refl _ | apply Ext.drew | apply Ext.drewN | apply Ext.alloc | refine Ext.trans ?_ (by assumption))); first | done | fail) : Ext w w.drew)) (nv + k) (by omega) (by omega) (by omega)
  obtain ⟨q, hq⟩ : ∃ q, nv + k = q := ⟨_, rfl⟩
  rw [hq] at b7 hz hTG
  rw [show i + q = T by omega] at hz hTG
  obtain ⟨z, hzz⟩ : ∃ z, z = w.drew.heap.size := ⟨_, rfl⟩
  rw [← hzz] at hz
  have hs4 := fun W => run_from (P := Tryd.prog) (some ⟨z, 0, none⟩) T G 29 5 Tryd.underlying29 szB i (i : Int) rfl (by omega) W
  simp only [if_neg (show ¬ G = i by omega), Option.map_some, add_z, show T - i = q by omega] at hs4
  have hs5 := fun W => run_from (P := Tryd.prog) (some ⟨z, 0, none⟩) T G 29 5 Tryd.underlying29 szB (i + nv) ((i : Int) + (nv : Int)) (by omega) (by omega) W
  simp only [if_neg (show ¬ G = i + nv by omega), Option.map_some, add_z, show T - (i + nv) = k by omega] at hs5
  have hx1 : Ext w (w.drew.drew.alloc (.cells Z.toArray 5)) := (by (repeat (first | assumption | exact Ext.refl _ | apply Ext.drew | apply Ext.drewN | apply Ext.alloc | refine Ext.trans ?_ (by assumption))); first | done | fail)
  have hB1 : Blk (w.drew.drew.alloc (.cells Z.toArray 5)) z 5 Z.toArray := by rw [hzz]; exact Blk.new w.drew.drew _ _
  have hBo := hB.ext hx1
  have hgz : g ≠ z := by have := hB.lt; rw [hzz]; exact Nat.ne_of_lt this
  have hV1 := hv.ext hx1
  have hvl := hv.len
  generalize w.drew.drew.alloc (.cells Z.toArray 5) = w1 at *
  have hfz : ∀ k, k ∈ [z] → w.heap.size ≤ k := fun k hk => by rw [List.mem_singleton.1 hk, hzz]; exact Nat.le_refl _
  have hVn : ∀ ad, Av = some ad → ad.block ≠ z := fun ad e h => by
    obtain ⟨g', o', e2, hc'⟩ := hv.s.2.2.2 (by omega)
    rw [e] at e2
    cases e2
    have := block_lt_of_cell (hc' 0 (by omega))
    rw [hzz] at h
    exact absurd (h ▸ this) (Nat.lt_irrefl _)
  have hdl : ((L.drop (i + 1)).map vb).length = k := by rw [List.length_map, List.length_drop]; omega
  have HB1 := Kp.mk hB1
  have HBo := Kp.mk hBo
  have HX1 := Kp.mk hx1
  have HZ := Kp.mk hzz
  have HZT := Kp.mk hZt
  have hf1 : (lv.map vb).length = Nat.min nv q := by rw [List.length_map, hvl]; show nv = min nv q; omega
  have HF1 := Kp.mk hf1
  have hf2 : i + (lv.map vb).length ≤ Z.length := by rw [List.length_map, hvl]; omega
  have HF2 := Kp.mk hf2
  have HV := Kp.mk (fun (hp : 0 < (lv.map vb).length) => hV1.news hp)
  have HD : Kp (((L.drop (i + 1)).map vb).length = Nat.min k k) := ⟨by rw [hdl]; show k = min k k; omega⟩
  have HE : Kp (i + nv + ((L.drop (i + 1)).map vb).length ≤ (splice Z i (lv.map vb)).length) := ⟨by rw [length_splice _ _ _ hf2, hdl]; omega⟩
  have HC : Kp (∀ (j : Nat) (v : Value), ((L.drop (i + 1)).map vb)[j]? = some v → cur[i + 1 + j]? = some v) := ⟨fun j v hj => tail_cells ht hLl j v hj⟩
  have HFIN : Kp (((splice (splice Z i (lv.map vb)) (i + nv) ((L.drop (i + 1)).map vb)).take T) = (L.take i ++ lv ++ L.drop (i + 1)).map vb) := ⟨by
    have h1 := splice_ahead Z (lv.map vb) ((L.drop (i + 1)).map vb) i (by rw [List.length_map, hvl, hdl]; omega)
    rw [hdl, List.length_map, hvl, hT] at h1
    rw [h1, hZt, List.map_append, List.map_append]⟩
  have HFL : Kp ((splice (splice Z i (lv.map vb)) (i + nv) ((L.drop (i + 1)).map vb)).length = G) := ⟨by rw [length_splice _ _ _ HE.out, length_splice _ _ _ hf2, hZG]⟩
  have HLL : Kp ((L.take i ++ lv ++ L.drop (i + 1)).length = T) := ⟨by rw [List.length_append, List.length_append, List.length_take, List.length_drop, hvl]; omega⟩
  have HO1 : Kp (∀ v ∈ lv.map vb, v.oneCell' = true) := ⟨one_vb' _⟩
  have HO2 : Kp (∀ v ∈ (L.drop (i + 1)).map vb, v.oneCell' = true) := ⟨one_vb' _⟩
  have HTG := Kp.mk hTG
  have HGM := Kp.mk hGm
  have HGZ := Kp.mk hgz
  have HFZ := Kp.mk hfz
  clear ho hv hB hcl hNc hcm ht hB1 hBo hx1 hzz hZt hf1 hf2 hV1 hvl hdl hLl hTG hGm hgz hfz hVn hZG hc hn hn4 hb hk hT hq hN
  generalize (L.drop (i + 1)).map vb = X at *
  generalize (lv.map vb) = V at *
  have bT := b6
  go_enter Tryd.func64, Tryd.ntmps64
  go_wp2_with fail
  refine wp_region_held_drew (S := fun _ => True) (by kernel_rfl) trivial (fun hHeld => ?_)
  refine wpAnyH_take (i := 0) (oi := ⟨some 45, _, _, _, _, _⟩) (v := ?_) rfl (by kernel_rfl) (by kernel_rfl) (by kernel_rfl) (fun _ _ _ h => h) (Or.inl ⟨by rfl, ?_⟩) (by assumption) ?_
  rotate_left
  · (intro w hSw; (try dsimp only at hSw); go_simp; try with_reducible rfl)
  try simp only [Act.put, List.setIfInBounds_toArray, List.set_cons_zero, List.set_cons_succ]
  refine wpAnyH_take (i := 1) (oi := ⟨some 46, _, _, _, _, _⟩) (v := ?_) rfl (by kernel_rfl) (by kernel_rfl) (by kernel_rfl) (fun _ _ _ h => h) (Or.inl ⟨by rfl, ?_⟩) (by assumption) ?_
  rotate_left
  · (intro w hSw; (try dsimp only at hSw); go_simp; try with_reducible rfl)
  try simp only [Act.put, List.setIfInBounds_toArray, List.set_cons_zero, List.set_cons_succ]
  refine wpAnyH_take (i := 2) (oi := ⟨some 47, _, _, _, _, _⟩) (v := ?_) rfl (by kernel_rfl) (by kernel_rfl) (by kernel_rfl) (fun _ _ _ h => h) (Or.inl ⟨by rfl, ?_⟩) (by assumption) ?_
  rotate_left
  · (intro w hSw; (try dsimp only at hSw); go_simp; try with_reducible rfl)
  try simp only [Act.put, List.setIfInBounds_toArray, List.set_cons_zero, List.set_cons_succ]
  refine wpAnyH_take (i := 3) (oi := ⟨some 48, _, _, _, _, _⟩) (v := ?_) rfl (by kernel_rfl) (by kernel_rfl) (by kernel_rfl) (fun _ _ _ h => h) (Or.inl ⟨by rfl, ?_⟩) (by assumption) ?_
  rotate_left
  · (intro w hSw; (try dsimp only at hSw); go_simp; try with_reducible rfl)
  try simp only [Act.put, List.setIfInBounds_toArray, List.set_cons_zero, List.set_cons_succ]
  refine wpAnyH_take (i := 4) (oi := ⟨some 49, _, _, _, _, _⟩) (v := ?_) rfl (by kernel_rfl) (by kernel_rfl) (by kernel_rfl) (fun _ _ _ h => h) (Or.inl ⟨by rfl, ?_⟩) (by assumption) ?_
  rotate_left
  · (intro w hSw; (try dsimp only at hSw); go_simp; try with_reducible rfl)
  try simp only [Act.put, List.setIfInBounds_toArray, List.set_cons_zero, List.set_cons_succ]
  refine wpAnyH_take (i := 5) (oi := ⟨some 50, _, _, _, _, _⟩) (v := ?_) rfl (by kernel_rfl) (by kernel_rfl) (by kernel_rfl) (fun _ _ _ h => h) (Or.inl ⟨by rfl, ?_⟩) (by assumption) ?_
  rotate_left
  · (intro w hSw; (try dsimp only at hSw); go_simp; try with_reducible rfl)
  try simp only [Act.put, List.setIfInBounds_toArray, List.set_cons_zero, List.set_cons_succ]
  refine wpAnyH_take (i := 6) (oi := ⟨some 51, _, _, _, _, _⟩) (v := ?_) rfl (by kernel_rfl) (by kernel_rfl) (by kernel_rfl) (fun _ _ _ h => h) (Or.inl ⟨by rfl, ?_⟩) (by assumption) ?_
  rotate_left
  · (intro w hSw; (try dsimp only at hSw); go_simp; try with_reducible rfl)
  try simp only [Act.put, List.setIfInBounds_toArray, List.set_cons_zero, List.set_cons_succ]
  refine wpAnyH_take (i := 7) (oi := ⟨some 52, _, _, _, _, _⟩) (v := ?_) rfl (by kernel_rfl) (by kernel_rfl) (by kernel_rfl) (fun _ _ _ h => h) (Or.inl ⟨by rfl, ?_⟩) (by assumption) ?_
  rotate_left
  · (intro w hSw; (try dsimp only at hSw); go_simp; try with_reducible rfl)
  try simp only [Act.put, List.setIfInBounds_toArray, List.set_cons_zero, List.set_cons_succ]
  refine wpAnyH_take (i := 8) (oi := ⟨some 53, _, _, _, _, _⟩) (v := ?_) rfl (by kernel_rfl) (by kernel_rfl) (by kernel_rfl) (fun _ _ _ h => h) (Or.inl ⟨by rfl, ?_⟩) (by assumption) ?_
  rotate_left
  · (intro w hSw; (try dsimp only at hSw); go_simp; try with_reducible rfl)
  try simp only [Act.put, List.setIfInBounds_toArray, List.set_cons_zero, List.set_cons_succ]
  refine wpAnyH_take (i := 9) (oi := ⟨some 54, _, _, _, _, _⟩) (v := ?_) rfl (by kernel_rfl) (by kernel_rfl) (by kernel_rfl) (fun _ _ _ h => h) (Or.inl ⟨by rfl, ?_⟩) (by assumption) ?_
  rotate_left
  · (intro w hSw; (try dsimp only at hSw); go_simp; try with_reducible rfl)
  try simp only [Act.put, List.setIfInBounds_toArray, List.set_cons_zero, List.set_cons_succ]
  refine wpAnyH_take (i := 10) (oi := ⟨some 55, _, _, _, _, _⟩) (v := ?_) rfl (by kernel_rfl) (by kernel_rfl) (by kernel_rfl) (fun _ _ _ h => h) (Or.inl ⟨by rfl, ?_⟩) (by assumption) ?_
  rotate_left
  · (intro w hSw; (try dsimp only at hSw); go_simp; try with_reducible rfl)
  try simp only [Act.put, List.setIfInBounds_toArray, List.set_cons_zero, List.set_cons_succ]
  refine wpAnyH_take (i := 11) (oi := ⟨some 56, _, _, _, _, _⟩) (v := ?_) rfl (by kernel_rfl) (by kernel_rfl) (by kernel_rfl) (fun _ _ _ h => h) (Or.inl ⟨by rfl, ?_⟩) (by assumption) ?_
  rotate_left
  · (intro w hSw; (try dsimp only at hSw); go_simp; try with_reducible rfl)
  try simp only [Act.put, List.setIfInBounds_toArray, List.set_cons_zero, List.set_cons_succ]
  refine wpAnyH_take (i := 12) (oi := ⟨some 10, _, _, _, _, _⟩) (v := ?_) rfl (by kernel_rfl) (by kernel_rfl) (by kernel_rfl) (fun _ _ _ h => h) (Or.inl ⟨by rfl, ?_⟩) (by assumption) ?_
  rotate_left
  · (intro w hSw; (try dsimp only at hSw); go_simp; try with_reducible rfl)
  try simp only [Act.put, List.setIfInBounds_toArray, List.set_cons_zero, List.set_cons_succ]
  refine wpAnyH_done (by kernel_rfl) ?_ _
  go_wp2_with (first | (at_builtin; refine Lib.wpList_append_run _ rfl _ _ _ _ rfl _ _ rfl rfl _ _ (hz _) ?_) | (with_reducible refine at_call_to 72 ?_; refine wpList_copy_at (o := ⟨some 72, _, _, _, _, _⟩) rfl (.tmp 70) (.tmp 71) 29 29 rfl 5 Tryd.underlying29 szB (some ⟨z, i, none⟩) Av q (G - i) nv cv rfl rfl z i Z 5 HB1.out V HF1.out (fun hp => ⟨rfl, HV.out hp⟩) HF2.out HO1.out ?_; intro w2 hB2 hm2) | fail)
  refine wp_region_held_drew (S := fun _ => True) (by kernel_rfl) trivial (fun hHeld => ?_)
  refine wpAnyH_take (i := 0) (oi := ⟨some 73, _, _, _, _, _⟩) (v := ?_) rfl (by kernel_rfl) (by kernel_rfl) (by kernel_rfl) (fun _ _ _ h => h) (Or.inl ⟨by rfl, ?_⟩) (by assumption) ?_
  rotate_left
  · (intro w hSw; (try dsimp only at hSw); go_simp; try with_reducible rfl)
  try simp only [Act.put, List.setIfInBounds_toArray, List.set_cons_zero, List.set_cons_succ]
  refine wpAnyH_take (i := 1) (oi := ⟨some 74, _, _, _, _, _⟩) (v := ?_) rfl (by kernel_rfl) (by kernel_rfl) (by kernel_rfl) (fun _ _ _ h => h) (Or.inl ⟨by rfl, ?_⟩) (by assumption) ?_
  rotate_left
  · (intro w hSw; (try dsimp only at hSw); go_simp; try with_reducible rfl)
  try simp only [Act.put, List.setIfInBounds_toArray, List.set_cons_zero, List.set_cons_succ]
  refine wpAnyH_take (i := 2) (oi := ⟨some 75, _, _, _, _, _⟩) (v := ?_) rfl (by kernel_rfl) (by kernel_rfl) (by kernel_rfl) (fun _ _ _ h => h) (Or.inl ⟨by rfl, ?_⟩) (by assumption) ?_
  rotate_left
  · (intro w hSw; (try dsimp only at hSw); go_simp; try with_reducible rfl)
  try simp only [Act.put, List.setIfInBounds_toArray, List.set_cons_zero, List.set_cons_succ]
  refine wpAnyH_take (i := 3) (oi := ⟨some 76, _, _, _, _, _⟩) (v := ?_) rfl (by kernel_rfl) (by kernel_rfl) (by kernel_rfl) (fun _ _ _ h => h) (Or.inl ⟨by rfl, ?_⟩) (by assumption) ?_
  rotate_left
  · (intro w hSw; (try dsimp only at hSw); go_simp; try with_reducible rfl)
  try simp only [Act.put, List.setIfInBounds_toArray, List.set_cons_zero, List.set_cons_succ]
  refine wpAnyH_take (i := 4) (oi := ⟨some 77, _, _, _, _, _⟩) (v := ?_) rfl (by kernel_rfl) (by kernel_rfl) (by kernel_rfl) (fun _ _ _ h => h) (Or.inl ⟨by rfl, ?_⟩) (by assumption) ?_
  rotate_left
  · (intro w hSw; (try dsimp only at hSw); go_simp; try with_reducible rfl)
  try simp only [Act.put, List.setIfInBounds_toArray, List.set_cons_zero, List.set_cons_succ]
  refine wpAnyH_take (i := 5) (oi := ⟨some 78, _, _, _, _, _⟩) (v := ?_) rfl (by kernel_rfl) (by kernel_rfl) (by kernel_rfl) (fun _ _ _ h => h) (Or.inl ⟨by rfl, ?_⟩) (by assumption) ?_
  rotate_left
  · (intro w hSw; (try dsimp only at hSw); go_simp; try with_reducible rfl)
  try simp only [Act.put, List.setIfInBounds_toArray, List.set_cons_zero, List.set_cons_succ]
  refine wpAnyH_take (i := 6) (oi := ⟨some 79, _, _, _, _, _⟩) (v := ?_) rfl (by kernel_rfl) (by kernel_rfl) (by kernel_rfl) (fun _ _ _ h => h) (Or.inl ⟨by rfl, ?_⟩) (by assumption) ?_
  rotate_left
  · (intro w hSw; (try dsimp only at hSw); go_simp; try with_reducible rfl)
  try simp only [Act.put, List.setIfInBounds_toArray, List.set_cons_zero, List.set_cons_succ]
  refine wpAnyH_take (i := 7) (oi := ⟨some 80, _, _, _, _, _⟩) (v := ?_) rfl (by kernel_rfl) (by kernel_rfl) (by kernel_rfl) (fun _ _ _ h => h) (Or.inl ⟨by rfl, ?_⟩) (by assumption) ?_
  rotate_left
  · (intro w hSw; (try dsimp only at hSw); go_simp; try with_reducible rfl)
  try simp only [Act.put, List.setIfInBounds_toArray, List.set_cons_zero, List.set_cons_succ]
  refine wpAnyH_take (i := 8) (oi := ⟨some 81, _, _, _, _, _⟩) (v := ?_) rfl (by kernel_rfl) (by kernel_rfl) (by kernel_rfl) (fun _ _ _ h => h) (Or.inl ⟨by rfl, ?_⟩) (by assumption) ?_
  rotate_left
  · (intro w hSw; (try dsimp only at hSw); go_simp; try with_reducible rfl)
  try simp only [Act.put, List.setIfInBounds_toArray, List.set_cons_zero, List.set_cons_succ]
  refine next_one 9 (by kernel_rfl) rfl (by rfl) fun K' HK' => ?_
  refine wp_copy_at (o := ⟨some 82, _, _, _, _, _⟩) (.tmp 78) (.tmp 81) 29 29 rfl 5 Tryd.underlying29 szB (some ⟨z, i + nv, none⟩) (some ⟨g, i + 1, none⟩) k (G - (i + nv)) k (c - (i + 1)) rfl rfl z (i + nv) (splice Z i V) 5 (hB2.out.ext (by (repeat (first | assumption | exact Ext.refl _ | apply Ext.drew | apply Ext.drewN | apply Ext.alloc | refine Ext.trans ?_ (by assumption))); first | done | fail)) X HD.out (fun _ => ⟨rfl, _, rfl, ?src⟩) HE.out HO2.out ?_
  case src =>
    intro j v hj
    have h1 := HC.out j v hj
    rw [show (⟨g, i + 1, none⟩ : Addr).add j = ⟨g, i + 1 + j, none⟩ by unfold Addr.add; split <;> simp_all]
    rw [((HBo.out.mds hm2 (by simpa using HGZ.out)).ext ((by (repeat (first | assumption | exact Ext.refl _ | apply Ext.drew | apply Ext.drewN | apply Ext.alloc | refine Ext.trans ?_ (by assumption))); first | done | fail) : Ext w2 w2.drew)).h.cell]
    simpa using h1
  intro w3 hB3 hm3
  refine held_go HK' trivial (fun hHeld => ?_)
  clear HK'
  try simp only [Act.put, List.setIfInBounds_toArray, List.set_cons_zero, List.set_cons_succ]
  refine wpAnyH_done (by kernel_rfl) ?_ _
  go_wp2_with fail
  go_ret
  have hx2 : Ext w w2 := hm2.ext HX1.out HFZ.out
  have hx3 : Ext w w3 := hm3.ext (hx2.trans (by (repeat (first | assumption | exact Ext.refl _ | apply Ext.drew | apply Ext.drewN | apply Ext.alloc | refine Ext.trans ?_ (by assumption))); first | done | fail)) HFZ.out
  exact ⟨_, _, rfl, Own.of_cells hB3.out HFL.out HTG.out HGM.out (Nat.zero_le _) HLL.out HFIN.out, hx3.mds _, fun k hk => .inr (HFZ.out k (by simpa [fpv, Value.ownBlock] using hk))⟩
end Go.Proofs.YthookcnkmlmgcaaDoor
