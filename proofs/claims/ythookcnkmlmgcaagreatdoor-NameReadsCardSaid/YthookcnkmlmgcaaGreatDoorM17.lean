/-
  slices.Replace at the end of a row.
  slices.Replace in a row without room.
  slices.Replace in a row with room.
  tlv's writer: what it holds, what stays of it; fail.
-/
import Derived.Test.YthookcnkmlmgcaaGreatDoorM16
import Derived.Test.YthookcnkmlmgcaaGreatDoorM8
namespace Go.Proofs.YthookcnkmlmgcaaGreatDoor
open Go Go.RowKit
set_option maxRecDepth 4000

set_option maxHeartbeats 4000000 in
theorem Replace_end {w : World} {g i N c nv cv : Nat} {Av : Option Addr} {L lv : List (BitVec 8)} (ho : Own w 0 (.slice (some ⟨g, 0, none⟩) N c) N L) (hv : Bs w Av nv cv lv) (hn : 2 ≤ nv) (hn4 : nv ≤ 4) (hN : i + 1 = N) (hb : N ≤ 100000000000000) :
    Calls Tryz.prog 81 #[.slice (some ⟨g, 0, none⟩) N c, .int .i64 (i : Int), .int .i64 ((i : Int) + 1), .slice Av nv cv] w (RepR w (.slice (some ⟨g, 0, none⟩) N c) (i + nv) (L.take i ++ lv)) := by
  obtain ⟨cur, hB, hcl, hNc, hcm, ht⟩ := ho.cells_
  have hs1 := fun W => run_mid (P := Tryz.prog) g N c 22 5 Tryz.underlying22 szB i (i + 1) (i : Int) ((i : Int) + 1) rfl (by omega) (by omega) (by omega) (by omega) W
  have hs2 := fun W => run_upto (P := Tryz.prog) (some ⟨g, 0, none⟩) N c 22 5 Tryz.underlying22 szB i (i : Int) rfl (by omega) W
  have b1 : ((i : Int) == (i : Int) + 1) = false := beq_eq_false_iff_ne.2 (by omega)
  subst hN
  obtain ⟨T, hT⟩ : ∃ T, i + nv = T := ⟨_, rfl⟩
  have b3 : decide ((T : Int) < (i : Int) + 1) = false := decide_eq_false (by omega)
  have HO := Kp.mk (ho.take (show i ≤ i + 1 by omega))
  have HV := Kp.mk hv
  have hx : i + nv ≤ 140737488355328 := by omega
  have HT := Kp.mk hT
  rw [hT]
  clear ho hv hB hcl hNc hcm ht hn hn4 hb hT
  go_enter Tryz.func81, Tryz.ntmps81
  go_wp2_with (first | (at_builtin; refine wpList_append_m rfl (.tmp 32) (.tmp 33) rfl _ i (L.take i) rfl HO.out Av nv cv lv rfl HV.out hx T HT.out (L.take i ++ lv) rfl ?_; intro A5 c5 w5 ho5 ha5) | fail)
  go_ret
  exact ⟨_, _, rfl, ho5, ha5.mv⟩
end Go.Proofs.YthookcnkmlmgcaaGreatDoor
namespace Go.Proofs.YthookcnkmlmgcaaGreatDoor
open Go Go.RowKit
set_option maxRecDepth 4000

set_option maxHeartbeats 8000000 in
theorem Replace_grow {w : World} {g i k N c nv cv : Nat} {Av : Option Addr} {L lv : List (BitVec 8)} (ho : Own w 0 (.slice (some ⟨g, 0, none⟩) N c) N L) (hv : Bs w Av nv cv lv) (hn : 2 ≤ nv) (hn4 : nv ≤ 4) (hN : i + 1 + k = N) (hk : 0 < k) (hb : N ≤ 100000000000000) (hc : c < i + nv + k) :
    Calls Tryz.prog 81 #[.slice (some ⟨g, 0, none⟩) N c, .int .i64 (i : Int), .int .i64 ((i : Int) + 1), .slice Av nv cv] w (RepR w (.slice (some ⟨g, 0, none⟩) N c) (i + nv + k) (L.take i ++ lv ++ L.drop (i + 1))) := by
  obtain ⟨cur, hB, hcl, hNc, hcm, ht⟩ := ho.cells_
  have hLl := ho.len
  have hs1 := fun W => run_mid (P := Tryz.prog) g N c 22 5 Tryz.underlying22 szB i (i + 1) (i : Int) ((i : Int) + 1) rfl (by omega) (by omega) (by omega) (by omega) W
  have hs2 := fun W => run_upto (P := Tryz.prog) (some ⟨g, 0, none⟩) N c 22 5 Tryz.underlying22 szB i (i : Int) rfl (by omega) W
  have hs3 := fun W => run_from (P := Tryz.prog) (some ⟨g, 0, none⟩) N c 22 5 Tryz.underlying22 szB (i + 1) ((i : Int) + 1) (by omega) (by omega) W
  simp only [if_neg (show ¬ c = i + 1 by omega), Option.map_some, add_z, show N - (i + 1) = k by omega] at hs3
  have b1 : ((i : Int) == (i : Int) + 1) = false := beq_eq_false_iff_ne.2 (by omega)
  have b2 : ((i : Int) + 1 == (N : Int)) = false := beq_eq_false_iff_ne.2 (by omega)
  have b4 : IntKind.i64.wrap ((i : Int) + (nv : Int)) = (i : Int) + (nv : Int) := by rw [IntKind.wrap_i64]; omega
  have b5 : IntKind.i64.wrap ((i : Int) + (nv : Int) + (k : Int)) = ((i + nv + k : Nat) : Int) := by rw [IntKind.wrap_i64]; omega
  obtain ⟨T, hT⟩ : ∃ T, i + nv + k = T := ⟨_, rfl⟩
  rw [hT] at b5 ⊢
  have b6 : (c : Int) < (T : Int) := by omega
  have b7 : IntKind.i64.wrap ((T : Int) - (i : Int)) = ((nv + k : Nat) : Int) := by rw [IntKind.wrap_i64]; omega
  obtain ⟨Z, G, hz, hZG, hTG, hGm, hZt⟩ := run_zeros ((ho.take (show i ≤ N by omega)).ext ((by (repeat (first | assumption | exact Ext.refl _ | apply Ext.drew | apply Ext.drewN | apply Ext.alloc | refine Ext.trans ?_ (by assumption))); first | done | fail) : Ext w w.drew)) (nv + k) (by omega) (by omega) (by omega)
  obtain ⟨q, hq⟩ : ∃ q, nv + k = q := ⟨_, rfl⟩
  rw [hq] at b7 hz hTG
  rw [show i + q = T by omega] at hz hTG
  obtain ⟨z, hzz⟩ : ∃ z, z = w.drew.heap.size := ⟨_, rfl⟩
  rw [← hzz] at hz
  have hs4 := fun W => run_from (P := Tryz.prog) (some ⟨z, 0, none⟩) T G 22 5 Tryz.underlying22 szB i (i : Int) rfl (by omega) W
  simp only [if_neg (show ¬ G = i by omega), Option.map_some, add_z, show T - i = q by omega] at hs4
  have hs5 := fun W => run_from (P := Tryz.prog) (some ⟨z, 0, none⟩) T G 22 5 Tryz.underlying22 szB (i + nv) ((i : Int) + (nv : Int)) (by omega) (by omega) W
  simp only [if_neg (show ¬ G = i + nv by omega), Option.map_some, add_z, show T - (i + nv) = k by omega] at hs5
  have hx1 : Ext w (w.drew.drew.alloc (.cells Z.toArray 5)) := (by (repeat (first | assumption | exact Ext.refl _ | apply Ext.drew | apply Ext.drewN | apply Ext.alloc | refine Ext.trans ?_ (by assumption))); first | done | fail)
  have hB1 : Blk (w.drew.drew.alloc (.cells Z.toArray 5)) z 5 Z.toArray := by rw [hzz]; exact Blk.new w.drew.drew _ _
  have hBo := hB.ext hx1
  have hgz : g ≠ z := by have := hB.lt; rw [hzz]; exact Nat.ne_of_lt this
  have hV1 := hv.ext hx1
  have hvl := hv.len
  generalize w.drew.drew.alloc (.cells Z.toArray 5) = w1 at *
  have hfz : ∀ k, k ∈ [z] → w.heap.size ≤ k := fun k hk => by rw [List.mem_singleton.1 hk, hzz]; exact Nat.le_refl _
  have hVn : ∀ ad, Av = some ad → ad.block ≠ z := fun ad e h => by
    obtain ⟨g', o', e2, hc'⟩ := hv.s.2.2.2 (by omega)
    rw [e] at e2
    cases e2
    have := block_lt_of_cell (hc' 0 (by omega))
    rw [hzz] at h
    exact absurd (h ▸ this) (Nat.lt_irrefl _)
  have hdl : ((L.drop (i + 1)).map vb).length = k := by rw [List.length_map, List.length_drop]; omega
  have HB1 := Kp.mk hB1
  have HBo := Kp.mk hBo
  have HX1 := Kp.mk hx1
  have HZ := Kp.mk hzz
  have HZT := Kp.mk hZt
  have hf1 : (lv.map vb).length = Nat.min nv q := by rw [List.length_map, hvl]; show nv = min nv q; omega
  have HF1 := Kp.mk hf1
  have hf2 : i + (lv.map vb).length ≤ Z.length := by rw [List.length_map, hvl]; omega
  have HF2 := Kp.mk hf2
  have HV := Kp.mk (fun (hp : 0 < (lv.map vb).length) => hV1.news hp)
  have HD : Kp (((L.drop (i + 1)).map vb).length = Nat.min k k) := ⟨by rw [hdl]; show k = min k k; omega⟩
  have HE : Kp (i + nv + ((L.drop (i + 1)).map vb).length ≤ (splice Z i (lv.map vb)).length) := ⟨by rw [length_splice _ _ _ hf2, hdl]; omega⟩
  have HC : Kp (∀ (j : Nat) (v : Value), ((L.drop (i + 1)).map vb)[j]? = some v → cur[i + 1 + j]? = some v) := ⟨fun j v hj => tail_cells ht hLl j v hj⟩
  have HFIN : Kp (((splice (splice Z i (lv.map vb)) (i + nv) ((L.drop (i + 1)).map vb)).take T) = (L.take i ++ lv ++ L.drop (i + 1)).map vb) := ⟨by
    have h1 := splice_ahead Z (lv.map vb) ((L.drop (i + 1)).map vb) i (by rw [List.length_map, hvl, hdl]; omega)
    rw [hdl, List.length_map, hvl, hT] at h1
    rw [h1, hZt, List.map_append, List.map_append]⟩
  have HFL : Kp ((splice (splice Z i (lv.map vb)) (i + nv) ((L.drop (i + 1)).map vb)).length = G) := ⟨by rw [length_splice _ _ _ HE.out, length_splice _ _ _ hf2, hZG]⟩
  have HLL : Kp ((L.take i ++ lv ++ L.drop (i + 1)).length = T) := ⟨by rw [List.length_append, List.length_append, List.length_take, List.length_drop, hvl]; omega⟩
  have HO1 : Kp (∀ v ∈ lv.map vb, v.oneCell' = true) := ⟨one_vb' _⟩
  have HO2 : Kp (∀ v ∈ (L.drop (i + 1)).map vb, v.oneCell' = true) := ⟨one_vb' _⟩
  have HTG := Kp.mk hTG
  have HGM := Kp.mk hGm
  have HGZ := Kp.mk hgz
  have HFZ := Kp.mk hfz
  clear ho hv hB hcl hNc hcm ht hB1 hBo hx1 hzz hZt hf1 hf2 hV1 hvl hdl hLl hTG hGm hgz hfz hVn hZG hc hn hn4 hb hk hT hq hN
  generalize (L.drop (i + 1)).map vb = X at *
  generalize (lv.map vb) = V at *
  have bT := b6
  go_enter Tryz.func81, Tryz.ntmps81
  go_wp2_with fail
  refine wp_region_held_drew (S := fun _ => True) (by kernel_rfl) trivial (fun hHeld => ?_)
  refine wpAnyH_take (i := 0) (oi := ⟨some 45, _, _, _, _, _⟩) (v := ?_) rfl (by kernel_rfl) (by kernel_rfl) (by kernel_rfl) (fun _ _ _ h => h) (Or.inl ⟨by rfl, ?_⟩) (by assumption) ?_
  rotate_left
  · (intro w hSw; (try dsimp only at hSw); go_simp; try with_reducible rfl)
  try simp only [Act.put, List.setIfInBounds_toArray, List.set_cons_zero, List.set_cons_succ]
  refine wpAnyH_take (i := 1) (oi := ⟨some 46, _, _, _, _, _⟩) (v := ?_) rfl (by kernel_rfl) (by kernel_rfl) (by kernel_rfl) (fun _ _ _ h => h) (Or.inl ⟨by rfl, ?_⟩) (by assumption) ?_
  rotate_left
  · (intro w hSw; (try dsimp only at hSw); go_simp; try with_reducible rfl)
  try simp only [Act.put, List.setIfInBounds_toArray, List.set_cons_zero, List.set_cons_succ]
  refine wpAnyH_take (i := 2) (oi := ⟨some 47, _, _, _, _, _⟩) (v := ?_) rfl (by kernel_rfl) (by kernel_rfl) (by kernel_rfl) (fun _ _ _ h => h) (Or.inl ⟨by rfl, ?_⟩) (by assumption) ?_
  rotate_left
  · (intro w hSw; (try dsimp only at hSw); go_simp; try with_reducible rfl)
  try simp only [Act.put, List.setIfInBounds_toArray, List.set_cons_zero, List.set_cons_succ]
  refine wpAnyH_take (i := 3) (oi := ⟨some 48, _, _, _, _, _⟩) (v := ?_) rfl (by kernel_rfl) (by kernel_rfl) (by kernel_rfl) (fun _ _ _ h => h) (Or.inl ⟨by rfl, ?_⟩) (by assumption) ?_
  rotate_left
  · (intro w hSw; (try dsimp only at hSw); go_simp; try with_reducible rfl)
  try simp only [Act.put, List.setIfInBounds_toArray, List.set_cons_zero, List.set_cons_succ]
  refine wpAnyH_take (i := 4) (oi := ⟨some 49, _, _, _, _, _⟩) (v := ?_) rfl (by kernel_rfl) (by kernel_rfl) (by kernel_rfl) (fun _ _ _ h => h) (Or.inl ⟨by rfl, ?_⟩) (by assumption) ?_
  rotate_left
  · (intro w hSw; (try dsimp only at hSw); go_simp; try with_reducible rfl)
  try simp only [Act.put, List.setIfInBounds_toArray, List.set_cons_zero, List.set_cons_succ]
  refine wpAnyH_take (i := 5) (oi := ⟨some 50, _, _, _, _, _⟩) (v := ?_) rfl (by kernel_rfl) (by kernel_rfl) (by kernel_rfl) (fun _ _ _ h => h) (Or.inl ⟨by rfl, ?_⟩) (by assumption) ?_
  rotate_left
  · (intro w hSw; (try dsimp only at hSw); go_simp; try with_reducible rfl)
  try simp only [Act.put, List.setIfInBounds_toArray, List.set_cons_zero, List.set_cons_succ]
  refine wpAnyH_take (i := 6) (oi := ⟨some 51, _, _, _, _, _⟩) (v := ?_) rfl (by kernel_rfl) (by kernel_rfl) (by kernel_rfl) (fun _ _ _ h => h) (Or.inl ⟨by rfl, ?_⟩) (by assumption) ?_
  rotate_left
  · (intro w hSw; (try dsimp only at hSw); go_simp; try with_reducible rfl)
  try simp only [Act.put, List.setIfInBounds_toArray, List.set_cons_zero, List.set_cons_succ]
  refine wpAnyH_take (i := 7) (oi := ⟨some 52, _, _, _, _, _⟩) (v := ?_) rfl (by kernel_rfl) (by kernel_rfl) (by kernel_rfl) (fun _ _ _ h => h) (Or.inl ⟨by rfl, ?_⟩) (by assumption) ?_
  rotate_left
  · (intro w hSw; (try dsimp only at hSw); go_simp; try with_reducible rfl)
  try simp only [Act.put, List.setIfInBounds_toArray, List.set_cons_zero, List.set_cons_succ]
  refine wpAnyH_take (i := 8) (oi := ⟨some 53, _, _, _, _, _⟩) (v := ?_) rfl (by kernel_rfl) (by kernel_rfl) (by kernel_rfl) (fun _ _ _ h => h) (Or.inl ⟨by rfl, ?_⟩) (by assumption) ?_
  rotate_left
  · (intro w hSw; (try dsimp only at hSw); go_simp; try with_reducible rfl)
  try simp only [Act.put, List.setIfInBounds_toArray, List.set_cons_zero, List.set_cons_succ]
  refine wpAnyH_take (i := 9) (oi := ⟨some 54, _, _, _, _, _⟩) (v := ?_) rfl (by kernel_rfl) (by kernel_rfl) (by kernel_rfl) (fun _ _ _ h => h) (Or.inl ⟨by rfl, ?_⟩) (by assumption) ?_
  rotate_left
  · (intro w hSw; (try dsimp only at hSw); go_simp; try with_reducible rfl)
  try simp only [Act.put, List.setIfInBounds_toArray, List.set_cons_zero, List.set_cons_succ]
  refine wpAnyH_take (i := 10) (oi := ⟨some 55, _, _, _, _, _⟩) (v := ?_) rfl (by kernel_rfl) (by kernel_rfl) (by kernel_rfl) (fun _ _ _ h => h) (Or.inl ⟨by rfl, ?_⟩) (by assumption) ?_
  rotate_left
  · (intro w hSw; (try dsimp only at hSw); go_simp; try with_reducible rfl)
  try simp only [Act.put, List.setIfInBounds_toArray, List.set_cons_zero, List.set_cons_succ]
  refine wpAnyH_take (i := 11) (oi := ⟨some 56, _, _, _, _, _⟩) (v := ?_) rfl (by kernel_rfl) (by kernel_rfl) (by kernel_rfl) (fun _ _ _ h => h) (Or.inl ⟨by rfl, ?_⟩) (by assumption) ?_
  rotate_left
  · (intro w hSw; (try dsimp only at hSw); go_simp; try with_reducible rfl)
  try simp only [Act.put, List.setIfInBounds_toArray, List.set_cons_zero, List.set_cons_succ]
  refine wpAnyH_take (i := 12) (oi := ⟨some 10, _, _, _, _, _⟩) (v := ?_) rfl (by kernel_rfl) (by kernel_rfl) (by kernel_rfl) (fun _ _ _ h => h) (Or.inl ⟨by rfl, ?_⟩) (by assumption) ?_
  rotate_left
  · (intro w hSw; (try dsimp only at hSw); go_simp; try with_reducible rfl)
  try simp only [Act.put, List.setIfInBounds_toArray, List.set_cons_zero, List.set_cons_succ]
  refine wpAnyH_done (by kernel_rfl) ?_ _
  go_wp2_with (first | (at_builtin; refine Lib.wpList_append_run _ rfl _ _ _ _ rfl _ _ rfl rfl _ _ (hz _) ?_) | (with_reducible refine at_call_to 72 ?_; refine wpList_copy_at (o := ⟨some 72, _, _, _, _, _⟩) rfl (.tmp 70) (.tmp 71) 22 22 rfl 5 Tryz.underlying22 szB (some ⟨z, i, none⟩) Av q (G - i) nv cv rfl rfl z i Z 5 HB1.out V HF1.out (fun hp => ⟨rfl, HV.out hp⟩) HF2.out HO1.out ?_; intro w2 hB2 hm2) | fail)
  refine wp_region_held_drew (S := fun _ => True) (by kernel_rfl) trivial (fun hHeld => ?_)
  refine wpAnyH_take (i := 0) (oi := ⟨some 73, _, _, _, _, _⟩) (v := ?_) rfl (by kernel_rfl) (by kernel_rfl) (by kernel_rfl) (fun _ _ _ h => h) (Or.inl ⟨by rfl, ?_⟩) (by assumption) ?_
  rotate_left
  · (intro w hSw; (try dsimp only at hSw); go_simp; try with_reducible rfl)
  try simp only [Act.put, List.setIfInBounds_toArray, List.set_cons_zero, List.set_cons_succ]
  refine wpAnyH_take (i := 1) (oi := ⟨some 74, _, _, _, _, _⟩) (v := ?_) rfl (by kernel_rfl) (by kernel_rfl) (by kernel_rfl) (fun _ _ _ h => h) (Or.inl ⟨by rfl, ?_⟩) (by assumption) ?_
  rotate_left
  · (intro w hSw; (try dsimp only at hSw); go_simp; try with_reducible rfl)
  try simp only [Act.put, List.setIfInBounds_toArray, List.set_cons_zero, List.set_cons_succ]
  refine wpAnyH_take (i := 2) (oi := ⟨some 75, _, _, _, _, _⟩) (v := ?_) rfl (by kernel_rfl) (by kernel_rfl) (by kernel_rfl) (fun _ _ _ h => h) (Or.inl ⟨by rfl, ?_⟩) (by assumption) ?_
  rotate_left
  · (intro w hSw; (try dsimp only at hSw); go_simp; try with_reducible rfl)
  try simp only [Act.put, List.setIfInBounds_toArray, List.set_cons_zero, List.set_cons_succ]
  refine wpAnyH_take (i := 3) (oi := ⟨some 76, _, _, _, _, _⟩) (v := ?_) rfl (by kernel_rfl) (by kernel_rfl) (by kernel_rfl) (fun _ _ _ h => h) (Or.inl ⟨by rfl, ?_⟩) (by assumption) ?_
  rotate_left
  · (intro w hSw; (try dsimp only at hSw); go_simp; try with_reducible rfl)
  try simp only [Act.put, List.setIfInBounds_toArray, List.set_cons_zero, List.set_cons_succ]
  refine wpAnyH_take (i := 4) (oi := ⟨some 77, _, _, _, _, _⟩) (v := ?_) rfl (by kernel_rfl) (by kernel_rfl) (by kernel_rfl) (fun _ _ _ h => h) (Or.inl ⟨by rfl, ?_⟩) (by assumption) ?_
  rotate_left
  · (intro w hSw; (try dsimp only at hSw); go_simp; try with_reducible rfl)
  try simp only [Act.put, List.setIfInBounds_toArray, List.set_cons_zero, List.set_cons_succ]
  refine wpAnyH_take (i := 5) (oi := ⟨some 78, _, _, _, _, _⟩) (v := ?_) rfl (by kernel_rfl) (by kernel_rfl) (by kernel_rfl) (fun _ _ _ h => h) (Or.inl ⟨by rfl, ?_⟩) (by assumption) ?_
  rotate_left
  · (intro w hSw; (try dsimp only at hSw); go_simp; try with_reducible rfl)
  try simp only [Act.put, List.setIfInBounds_toArray, List.set_cons_zero, List.set_cons_succ]
  refine wpAnyH_take (i := 6) (oi := ⟨some 79, _, _, _, _, _⟩) (v := ?_) rfl (by kernel_rfl) (by kernel_rfl) (by kernel_rfl) (fun _ _ _ h => h) (Or.inl ⟨by rfl, ?_⟩) (by assumption) ?_
  rotate_left
  · (intro w hSw; (try dsimp only at hSw); go_simp; try with_reducible rfl)
  try simp only [Act.put, List.setIfInBounds_toArray, List.set_cons_zero, List.set_cons_succ]
  refine wpAnyH_take (i := 7) (oi := ⟨some 80, _, _, _, _, _⟩) (v := ?_) rfl (by kernel_rfl) (by kernel_rfl) (by kernel_rfl) (fun _ _ _ h => h) (Or.inl ⟨by rfl, ?_⟩) (by assumption) ?_
  rotate_left
  · (intro w hSw; (try dsimp only at hSw); go_simp; try with_reducible rfl)
  try simp only [Act.put, List.setIfInBounds_toArray, List.set_cons_zero, List.set_cons_succ]
  refine wpAnyH_take (i := 8) (oi := ⟨some 81, _, _, _, _, _⟩) (v := ?_) rfl (by kernel_rfl) (by kernel_rfl) (by kernel_rfl) (fun _ _ _ h => h) (Or.inl ⟨by rfl, ?_⟩) (by assumption) ?_
  rotate_left
  · (intro w hSw; (try dsimp only at hSw); go_simp; try with_reducible rfl)
  try simp only [Act.put, List.setIfInBounds_toArray, List.set_cons_zero, List.set_cons_succ]
  refine next_one 9 (by kernel_rfl) rfl (by rfl) fun K' HK' => ?_
  refine wp_copy_at (o := ⟨some 82, _, _, _, _, _⟩) (.tmp 78) (.tmp 81) 22 22 rfl 5 Tryz.underlying22 szB (some ⟨z, i + nv, none⟩) (some ⟨g, i + 1, none⟩) k (G - (i + nv)) k (c - (i + 1)) rfl rfl z (i + nv) (splice Z i V) 5 (hB2.out.ext (by (repeat (first | assumption | exact Ext.refl _ | apply Ext.drew | apply Ext.drewN | apply Ext.alloc | refine Ext.trans ?_ (by assumption))); first | done | fail)) X HD.out (fun _ => ⟨rfl, _, rfl, ?src⟩) HE.out HO2.out ?_
  case src =>
    intro j v hj
    have h1 := HC.out j v hj
    rw [show (⟨g, i + 1, none⟩ : Addr).add j = ⟨g, i + 1 + j, none⟩ by unfold Addr.add; split <;> simp_all]
    rw [((HBo.out.mds hm2 (by simpa using HGZ.out)).ext ((by (repeat (first | assumption | exact Ext.refl _ | apply Ext.drew | apply Ext.drewN | apply Ext.alloc | refine Ext.trans ?_ (by assumption))); first | done | fail) : Ext w2 w2.drew)).h.cell]
    simpa using h1
  intro w3 hB3 hm3
  refine held_go HK' trivial (fun hHeld => ?_)
  clear HK'
  try simp only [Act.put, List.setIfInBounds_toArray, List.set_cons_zero, List.set_cons_succ]
  refine wpAnyH_done (by kernel_rfl) ?_ _
  go_wp2_with fail
  go_ret
  have hx2 : Ext w w2 := hm2.ext HX1.out HFZ.out
  have hx3 : Ext w w3 := hm3.ext (hx2.trans (by (repeat (first | assumption | exact Ext.refl _ | apply Ext.drew | apply Ext.drewN | apply Ext.alloc | refine Ext.trans ?_ (by assumption))); first | done | fail)) HFZ.out
  exact ⟨_, _, rfl, Own.of_cells hB3.out HFL.out HTG.out HGM.out (Nat.zero_le _) HLL.out HFIN.out, hx3.mds _, fun k hk => .inr (HFZ.out k (by simpa [fpv, Value.ownBlock] using hk))⟩
end Go.Proofs.YthookcnkmlmgcaaGreatDoor
namespace Go.Proofs.YthookcnkmlmgcaaGreatDoor
open Go Go.RowKit
set_option maxRecDepth 4000

set_option maxHeartbeats 8000000 in
theorem Replace_in {w : World} {g i k N c nv cv : Nat} {Av : Option Addr} {L lv : List (BitVec 8)} (ho : Own w 0 (.slice (some ⟨g, 0, none⟩) N c) N L) (hv : Own w 0 (.slice Av nv cv) nv lv) (hgv : Av.map (·.block) ≠ some g) (hn : 2 ≤ nv) (hn4 : nv ≤ 4) (hN : i + 1 + k = N) (hk : 0 < k) (hb : N ≤ 100000000000000) (hc : i + nv + k ≤ c) :
    Calls Tryz.prog 81 #[.slice (some ⟨g, 0, none⟩) N c, .int .i64 (i : Int), .int .i64 ((i : Int) + 1), .slice Av nv cv] w (RepR w (.slice (some ⟨g, 0, none⟩) N c) (i + nv + k) (L.take i ++ lv ++ L.drop (i + 1))) := by
  obtain ⟨cur, hB, hcl, hNc, hcm, ht⟩ := ho.cells_
  have hLl := ho.len
  have hs1 := fun W => run_mid (P := Tryz.prog) g N c 22 5 Tryz.underlying22 szB i (i + 1) (i : Int) ((i : Int) + 1) rfl (by omega) (by omega) (by omega) (by omega) W
  have hs2 := fun W => run_upto (P := Tryz.prog) (some ⟨g, 0, none⟩) N c 22 5 Tryz.underlying22 szB i (i : Int) rfl (by omega) W
  have hs3 := fun W => run_from (P := Tryz.prog) (some ⟨g, 0, none⟩) N c 22 5 Tryz.underlying22 szB (i + 1) ((i : Int) + 1) (by omega) (by omega) W
  simp only [if_neg (show ¬ c = i + 1 by omega), Option.map_some, add_z, show N - (i + 1) = k by omega] at hs3
  have b1 : ((i : Int) == (i : Int) + 1) = false := beq_eq_false_iff_ne.2 (by omega)
  have b2 : ((i : Int) + 1 == (N : Int)) = false := beq_eq_false_iff_ne.2 (by omega)
  have b4 : IntKind.i64.wrap ((i : Int) + (nv : Int)) = (i : Int) + (nv : Int) := by rw [IntKind.wrap_i64]; omega
  have b5 : IntKind.i64.wrap ((i : Int) + (nv : Int) + (k : Int)) = ((i + nv + k : Nat) : Int) := by rw [IntKind.wrap_i64]; omega
  obtain ⟨T, hT⟩ : ∃ T, i + nv + k = T := ⟨_, rfl⟩
  rw [hT] at b5 ⊢
  have b6 : decide ((c : Int) < (T : Int)) = false := decide_eq_false (by omega)
  have b8 : decide ((i : Int) + (nv : Int) ≤ (i : Int) + 1) = false := decide_eq_false (by omega)
  have b9 : decide ((nv : Int) ≤ 1) = false := decide_eq_false (by omega)
  have b10 : decide (nv ≤ 1) = false := decide_eq_false (by omega)
  have hs4 := fun W => run_upto (P := Tryz.prog) (some ⟨g, 0, none⟩) N c 22 5 Tryz.underlying22 szB T (T : Int) rfl (by omega) W
  have hs5 := fun W => run_from (P := Tryz.prog) (some ⟨g, 0, none⟩) T c 22 5 Tryz.underlying22 szB (i + nv) ((i : Int) + (nv : Int)) (by omega) (by omega) W
  simp only [if_neg (show ¬ c = i + nv by omega), Option.map_some, add_z, show T - (i + nv) = k by omega] at hs5
  have hs6 := fun W => run_from (P := Tryz.prog) (some ⟨g, 0, none⟩) T c 22 5 Tryz.underlying22 szB i (i : Int) rfl (by omega) W
  simp only [if_neg (show ¬ c = i by omega), Option.map_some, add_z] at hs6
  obtain ⟨q, hq⟩ : ∃ q, T - i = q := ⟨_, rfl⟩
  rw [hq] at hs6
  obtain ⟨gv, rfl, _, hgl⟩ := hv.some_ (by omega)
  have hne : g ≠ gv := fun e => hgv (by simp [e])
  obtain ⟨cv0, hBv, hcvl, hnv, _, _⟩ := hv.cells_
  have hov : ∀ (lb cb la ca : Nat), (callFunc 97 #[.slice (some ⟨g, i + nv, none⟩) la ca, .slice (some ⟨gv, 0, none⟩) lb cb]).run Tryz.prog w.drew = .ok (.value (.bool false)) w.drew := fun lb cb la ca => by
    rw [run_callFunc_extern Tryz.func97 (by kernel_rfl) (by kernel_rfl) (by kernel_rfl) (e := Extern.SlicesOverlaps.overlaps #[22, 22] #[4]) (by kernel_rfl),
      Lib.run_overlaps_apart w.drew 22 4 5 Tryz.underlying22 1 (fun W => by
        obtain ⟨i, hi, hz, hs, hb⟩ := info_parts inB
        simp [sizeOf, typeInfo, hi, hs]) ⟨g, i + nv, none⟩ ⟨gv, 0, none⟩ la ca lb cb hne 5 5 c cv (by
        have := hB.h
        unfold Has at this
        show World.shape? w g = _
        unfold World.shape?
        rw [this]; simp [hcl]) (by
        have := hBv.h
        unfold Has at this
        show World.shape? w gv = _
        unfold World.shape?
        rw [this]; simp [hcvl]) (by omega) (hB.h.frozen _) (hB.h.frozen _)]
    rfl
  have hB1 : Blk w.drew g 5 cur.toArray := hB.ext (by (repeat (first | assumption | exact Ext.refl _ | apply Ext.drew | apply Ext.drewN | apply Ext.alloc | refine Ext.trans ?_ (by assumption))); first | done | fail)
  have hV1 := hv.bs.ext ((by (repeat (first | assumption | exact Ext.refl _ | apply Ext.drew | apply Ext.drewN | apply Ext.alloc | refine Ext.trans ?_ (by assumption))); first | done | fail) : Ext w w.drew)
  have hvl := hv.len
  have hdl : ((L.drop (i + 1)).map vb).length = k := by rw [List.length_map, List.length_drop]; omega
  have HB1 := Kp.mk hB1
  have hf1 : (lv.map vb).length = Nat.min nv q := by rw [List.length_map, hvl]; show nv = min nv q; omega
  have HF1 := Kp.mk hf1
  have HD : Kp (((L.drop (i + 1)).map vb).length = Nat.min k k) := ⟨by rw [hdl]; show k = min k k; omega⟩
  have hE : i + nv + ((L.drop (i + 1)).map vb).length ≤ cur.length := by rw [hdl]; omega
  have HE := Kp.mk hE
  have hF2 : i + (lv.map vb).length ≤ (splice cur (i + nv) ((L.drop (i + 1)).map vb)).length := by rw [length_splice _ _ _ hE, List.length_map, hvl]; omega
  have HF2 := Kp.mk hF2
  have HV := Kp.mk (fun (hp : 0 < (lv.map vb).length) (w' : World) (hm : Mds [g] w.drew w') => (hV1.s.2.2.2 (by rw [List.length_map, hvl] at hp; exact hp)))
  have HVC : Kp (∀ w', Mds [g] w.drew w' → ∀ (j : Nat) (v : Value), (lv.map vb)[j]? = some v → w'.cell? ((⟨gv, 0, none⟩ : Addr).add j) = some v) := ⟨fun w' hm j v hj => by
    have hjl : j < nv := by have := (List.getElem?_eq_some_iff.1 hj).1; simpa [hvl] using this
    rw [add_z, (hm.block gv hgl (by simpa using fun e => hne e.symm) |> fun e => World.cell?_of_block (w := w.drew) (a := ⟨gv, j, none⟩) e)]
    have h1 : w.cell? ⟨gv, j, none⟩ = some (.int .u8 (ub (gb lv j))) := hv.cell j hjl
    have h2 : (lv.map vb)[j]? = some (.int .u8 (ub (gb lv j))) := by
      rw [List.getElem?_map, List.getElem?_eq_getElem (by omega)]
      simp [gb, show j < lv.length by omega]
    rw [h2] at hj
    rw [← hj]
    exact h1⟩
  have HC : Kp (∀ (j : Nat) (v : Value), ((L.drop (i + 1)).map vb)[j]? = some v → cur[i + 1 + j]? = some v) := ⟨fun j v hj => tail_cells ht hLl j v hj⟩
  have HFIN : Kp (((splice (splice cur (i + nv) ((L.drop (i + 1)).map vb)) i (lv.map vb)).take T) = (L.take i ++ lv ++ L.drop (i + 1)).map vb) := ⟨by
    have h1 := splice_behind cur (lv.map vb) ((L.drop (i + 1)).map vb) i (by rw [List.length_map, hvl, hdl]; omega)
    rw [hdl, List.length_map, hvl, hT] at h1
    have h2 : cur.take i = (L.take i).map vb := by
      rw [List.map_take, ← ht, List.take_take, Nat.min_eq_left (by omega)]
    rw [h1, h2, List.map_append, List.map_append]⟩
  have HFL : Kp ((splice (splice cur (i + nv) ((L.drop (i + 1)).map vb)) i (lv.map vb)).length = c) := ⟨by rw [length_splice _ _ _ hF2, length_splice _ _ _ hE, hcl]⟩
  have HLL : Kp ((L.take i ++ lv ++ L.drop (i + 1)).length = T) := ⟨by rw [List.length_append, List.length_append, List.length_take, List.length_drop, hvl]; omega⟩
  have HO1 : Kp (∀ v ∈ lv.map vb, v.oneCell' = true) := ⟨one_vb' _⟩
  have HO2 : Kp (∀ v ∈ (L.drop (i + 1)).map vb, v.oneCell' = true) := ⟨one_vb' _⟩
  have HTG : Kp (T ≤ c) := ⟨by omega⟩
  have HGM := Kp.mk hcm
  have HT : Kp (T ≤ (c : Int)) := ⟨by omega⟩
  have b11 : (T : Int) ≤ (c : Int) := by omega
  clear ho hv hB hcl hNc hcm ht hB1 hf1 hF2 hE hV1 hvl hdl hLl hgv hc hn hn4 hb hk hT hq hN hBv hcvl hnv hgl
  generalize (L.drop (i + 1)).map vb = X at *
  generalize (lv.map vb) = V at *
  go_enter Tryz.func81, Tryz.ntmps81
  go_wp2_with fail
  refine wp_region_held_drew (S := fun _ => True) (by kernel_rfl) trivial (fun hHeld => ?_)
  refine wpAnyH_take (i := 0) (oi := ⟨some 45, _, _, _, _, _⟩) (v := ?_) rfl (by kernel_rfl) (by kernel_rfl) (by kernel_rfl) (fun _ _ _ h => h) (Or.inl ⟨by rfl, ?_⟩) (by assumption) ?_
  rotate_left
  · (intro w hSw; (try dsimp only at hSw); go_simp; try with_reducible rfl)
  try simp only [Act.put, List.setIfInBounds_toArray, List.set_cons_zero, List.set_cons_succ]
  refine wpAnyH_take (i := 1) (oi := ⟨some 46, _, _, _, _, _⟩) (v := ?_) rfl (by kernel_rfl) (by kernel_rfl) (by kernel_rfl) (fun _ _ _ h => h) (Or.inl ⟨by rfl, ?_⟩) (by assumption) ?_
  rotate_left
  · (intro w hSw; (try dsimp only at hSw); go_simp; try with_reducible rfl)
  try simp only [Act.put, List.setIfInBounds_toArray, List.set_cons_zero, List.set_cons_succ]
  refine wpAnyH_take (i := 2) (oi := ⟨some 47, _, _, _, _, _⟩) (v := ?_) rfl (by kernel_rfl) (by kernel_rfl) (by kernel_rfl) (fun _ _ _ h => h) (Or.inl ⟨by rfl, ?_⟩) (by assumption) ?_
  rotate_left
  · (intro w hSw; (try dsimp only at hSw); go_simp; try with_reducible rfl)
  try simp only [Act.put, List.setIfInBounds_toArray, List.set_cons_zero, List.set_cons_succ]
  refine wpAnyH_take (i := 3) (oi := ⟨some 48, _, _, _, _, _⟩) (v := ?_) rfl (by kernel_rfl) (by kernel_rfl) (by kernel_rfl) (fun _ _ _ h => h) (Or.inl ⟨by rfl, ?_⟩) (by assumption) ?_
  rotate_left
  · (intro w hSw; (try dsimp only at hSw); go_simp; try with_reducible rfl)
  try simp only [Act.put, List.setIfInBounds_toArray, List.set_cons_zero, List.set_cons_succ]
  refine wpAnyH_take (i := 4) (oi := ⟨some 49, _, _, _, _, _⟩) (v := ?_) rfl (by kernel_rfl) (by kernel_rfl) (by kernel_rfl) (fun _ _ _ h => h) (Or.inl ⟨by rfl, ?_⟩) (by assumption) ?_
  rotate_left
  · (intro w hSw; (try dsimp only at hSw); go_simp; try with_reducible rfl)
  try simp only [Act.put, List.setIfInBounds_toArray, List.set_cons_zero, List.set_cons_succ]
  refine wpAnyH_take (i := 5) (oi := ⟨some 50, _, _, _, _, _⟩) (v := ?_) rfl (by kernel_rfl) (by kernel_rfl) (by kernel_rfl) (fun _ _ _ h => h) (Or.inl ⟨by rfl, ?_⟩) (by assumption) ?_
  rotate_left
  · (intro w hSw; (try dsimp only at hSw); go_simp; try with_reducible rfl)
  try simp only [Act.put, List.setIfInBounds_toArray, List.set_cons_zero, List.set_cons_succ]
  refine wpAnyH_take (i := 6) (oi := ⟨some 51, _, _, _, _, _⟩) (v := ?_) rfl (by kernel_rfl) (by kernel_rfl) (by kernel_rfl) (fun _ _ _ h => h) (Or.inl ⟨by rfl, ?_⟩) (by assumption) ?_
  rotate_left
  · (intro w hSw; (try dsimp only at hSw); go_simp; try with_reducible rfl)
  try simp only [Act.put, List.setIfInBounds_toArray, List.set_cons_zero, List.set_cons_succ]
  refine wpAnyH_take (i := 7) (oi := ⟨some 52, _, _, _, _, _⟩) (v := ?_) rfl (by kernel_rfl) (by kernel_rfl) (by kernel_rfl) (fun _ _ _ h => h) (Or.inl ⟨by rfl, ?_⟩) (by assumption) ?_
  rotate_left
  · (intro w hSw; (try dsimp only at hSw); go_simp; try with_reducible rfl)
  try simp only [Act.put, List.setIfInBounds_toArray, List.set_cons_zero, List.set_cons_succ]
  refine wpAnyH_take (i := 8) (oi := ⟨some 53, _, _, _, _, _⟩) (v := ?_) rfl (by kernel_rfl) (by kernel_rfl) (by kernel_rfl) (fun _ _ _ h => h) (Or.inl ⟨by rfl, ?_⟩) (by assumption) ?_
  rotate_left
  · (intro w hSw; (try dsimp only at hSw); go_simp; try with_reducible rfl)
  try simp only [Act.put, List.setIfInBounds_toArray, List.set_cons_zero, List.set_cons_succ]
  refine wpAnyH_take (i := 9) (oi := ⟨some 54, _, _, _, _, _⟩) (v := ?_) rfl (by kernel_rfl) (by kernel_rfl) (by kernel_rfl) (fun _ _ _ h => h) (Or.inl ⟨by rfl, ?_⟩) (by assumption) ?_
  rotate_left
  · (intro w hSw; (try dsimp only at hSw); go_simp; try with_reducible rfl)
  try simp only [Act.put, List.setIfInBounds_toArray, List.set_cons_zero, List.set_cons_succ]
  refine wpAnyH_take (i := 10) (oi := ⟨some 55, _, _, _, _, _⟩) (v := ?_) rfl (by kernel_rfl) (by kernel_rfl) (by kernel_rfl) (fun _ _ _ h => h) (Or.inl ⟨by rfl, ?_⟩) (by assumption) ?_
  rotate_left
  · (intro w hSw; (try dsimp only at hSw); go_simp; try with_reducible rfl)
  try simp only [Act.put, List.setIfInBounds_toArray, List.set_cons_zero, List.set_cons_succ]
  refine wpAnyH_take (i := 11) (oi := ⟨some 56, _, _, _, _, _⟩) (v := ?_) rfl (by kernel_rfl) (by kernel_rfl) (by kernel_rfl) (fun _ _ _ h => h) (Or.inl ⟨by rfl, ?_⟩) (by assumption) ?_
  rotate_left
  · (intro w hSw; (try dsimp only at hSw); go_simp; try with_reducible rfl)
  try simp only [Act.put, List.setIfInBounds_toArray, List.set_cons_zero, List.set_cons_succ]
  refine wpAnyH_take (i := 12) (oi := ⟨some 10, _, _, _, _, _⟩) (v := ?_) rfl (by kernel_rfl) (by kernel_rfl) (by kernel_rfl) (fun _ _ _ h => h) (Or.inl ⟨by rfl, ?_⟩) (by assumption) ?_
  rotate_left
  · (intro w hSw; (try dsimp only at hSw); go_simp; try with_reducible rfl)
  try simp only [Act.put, List.setIfInBounds_toArray, List.set_cons_zero, List.set_cons_succ]
  refine wpAnyH_done (by kernel_rfl) ?_ _
  go_wp2_with fail
  refine wp_region_held_drew (S := fun _ => True) (by kernel_rfl) trivial (fun hHeld => ?_)
  refine wpAnyH_take (i := 0) (oi := ⟨some 121, _, _, _, _, _⟩) (v := ?_) rfl (by kernel_rfl) (by kernel_rfl) (by kernel_rfl) (fun _ _ _ h => h) (Or.inl ⟨by rfl, ?_⟩) (by assumption) ?_
  rotate_left
  · (intro w hSw; (try dsimp only at hSw); go_simp; try with_reducible rfl)
  try simp only [Act.put, List.setIfInBounds_toArray, List.set_cons_zero, List.set_cons_succ]
  refine wpAnyH_take (i := 1) (oi := ⟨some 122, _, _, _, _, _⟩) (v := ?_) rfl (by kernel_rfl) (by kernel_rfl) (by kernel_rfl) (fun _ _ _ h => h) (Or.inl ⟨by rfl, ?_⟩) (by assumption) ?_
  rotate_left
  · (intro w hSw; (try dsimp only at hSw); go_simp; try with_reducible rfl)
  try simp only [Act.put, List.setIfInBounds_toArray, List.set_cons_zero, List.set_cons_succ]
  refine wpAnyH_take (i := 2) (oi := ⟨some 123, _, _, _, _, _⟩) (v := ?_) rfl (by kernel_rfl) (by kernel_rfl) (by kernel_rfl) (fun _ _ _ h => h) (Or.inl ⟨by rfl, ?_⟩) (by assumption) ?_
  rotate_left
  · (intro w hSw; (try dsimp only at hSw); go_simp; try with_reducible rfl)
  try simp only [Act.put, List.setIfInBounds_toArray, List.set_cons_zero, List.set_cons_succ]
  refine wpAnyH_take (i := 3) (oi := ⟨some 124, _, _, _, _, _⟩) (v := ?_) rfl (by kernel_rfl) (by kernel_rfl) (by kernel_rfl) (fun _ _ _ h => h) (Or.inl ⟨by rfl, ?_⟩) (by assumption) ?_
  rotate_left
  · (intro w hSw; (try dsimp only at hSw); go_simp; try with_reducible rfl)
  try simp only [Act.put, List.setIfInBounds_toArray, List.set_cons_zero, List.set_cons_succ]
  refine wpAnyH_take (i := 4) (oi := ⟨some 125, _, _, _, _, _⟩) (v := ?_) rfl (by kernel_rfl) (by kernel_rfl) (by kernel_rfl) (fun _ _ _ h => h) (Or.inl ⟨by rfl, ?_⟩) (by assumption) ?_
  rotate_left
  · (intro w hSw; (try dsimp only at hSw); go_simp; try with_reducible rfl)
  try simp only [Act.put, List.setIfInBounds_toArray, List.set_cons_zero, List.set_cons_succ]
  refine wpAnyH_take (i := 5) (oi := ⟨some 126, _, _, _, _, _⟩) (v := ?_) rfl (by kernel_rfl) (by kernel_rfl) (by kernel_rfl) (fun _ _ _ h => h) (Or.inl ⟨by rfl, ?_⟩) (by assumption) ?_
  rotate_left
  · (intro w hSw; (try dsimp only at hSw); go_simp; try with_reducible rfl)
  try simp only [Act.put, List.setIfInBounds_toArray, List.set_cons_zero, List.set_cons_succ]
  refine wpAnyH_take (i := 6) (oi := ⟨some 127, _, _, _, _, _⟩) (v := ?_) rfl (by kernel_rfl) (by kernel_rfl) (by kernel_rfl) (fun _ _ _ h => h) (Or.inl ⟨by rfl, ?_⟩) (by assumption) ?_
  rotate_left
  · (intro w hSw; (try dsimp only at hSw); go_simp; try with_reducible rfl)
  try simp only [Act.put, List.setIfInBounds_toArray, List.set_cons_zero, List.set_cons_succ]
  refine wpAnyH_take (i := 7) (oi := ⟨some 128, _, _, _, _, _⟩) (v := ?_) rfl (by kernel_rfl) (by kernel_rfl) (by kernel_rfl) (fun _ _ _ h => h) (Or.inl ⟨by rfl, ?_⟩) (by assumption) ?_
  rotate_left
  · (intro w hSw; (try dsimp only at hSw); go_simp; try with_reducible rfl)
  try simp only [Act.put, List.setIfInBounds_toArray, List.set_cons_zero, List.set_cons_succ]
  refine wpAnyH_take (i := 8) (oi := ⟨some 129, _, _, _, _, _⟩) (v := ?_) rfl (by kernel_rfl) (by kernel_rfl) (by kernel_rfl) (fun _ _ _ h => h) (Or.inl ⟨by rfl, ?_⟩) (by assumption) ?_
  rotate_left
  · (intro w hSw; (try dsimp only at hSw); go_simp; try with_reducible rfl)
  try simp only [Act.put, List.setIfInBounds_toArray, List.set_cons_zero, List.set_cons_succ]
  refine next_one 9 (by kernel_rfl) rfl (by rfl) fun K' HK' => ?_
  refine wp_copy_at (o := ⟨some 130, _, _, _, _, _⟩) (.tmp 126) (.tmp 129) 22 22 rfl 5 Tryz.underlying22 szB (some ⟨g, i + nv, none⟩) (some ⟨g, i + 1, none⟩) k (c - (i + nv)) k (c - (i + 1)) rfl rfl g (i + nv) cur 5 (HB1.out.ext (by (repeat (first | assumption | exact Ext.refl _ | apply Ext.drew | apply Ext.drewN | apply Ext.alloc | refine Ext.trans ?_ (by assumption))); first | done | fail)) X HD.out (fun _ => ⟨rfl, _, rfl, ?src⟩) HE.out HO2.out ?_
  case src =>
    intro j v hj
    have h1 := HC.out j v hj
    rw [show (⟨g, i + 1, none⟩ : Addr).add j = ⟨g, i + 1 + j, none⟩ by unfold Addr.add; split <;> simp_all]
    rw [(HB1.out.ext ((by (repeat (first | assumption | exact Ext.refl _ | apply Ext.drew | apply Ext.drewN | apply Ext.alloc | refine Ext.trans ?_ (by assumption))); first | done | fail) : Ext w.drew w.drew.drew)).h.cell]
    simpa using h1
  intro w3 hB3 hm3
  refine held_go HK' trivial (fun hHeld => ?_)
  clear HK'
  try simp only [Act.put, List.setIfInBounds_toArray, List.set_cons_zero, List.set_cons_succ]
  refine wpAnyH_done (by kernel_rfl) ?_ _
  have HM3 := Kp.mk ((((by (repeat (first | assumption | exact Ext.refl _ | apply Ext.drew | apply Ext.drewN | apply Ext.alloc | refine Ext.trans ?_ (by assumption))); first | done | fail) : Ext w.drew w.drew.drew).mds [g]).trans hm3)
  clear hm3
  go_wp2_with (first | (with_reducible refine at_call_to 135 ?_; refine wpList_copy_at (o := ⟨some 135, _, _, _, _, _⟩) rfl (.tmp 133) (.tmp 134) 22 22 rfl 5 Tryz.underlying22 szB (some ⟨g, i, none⟩) (some ⟨gv, 0, none⟩) q (c - i) nv cv rfl rfl g i (splice cur (i + nv) X) 5 hB3.out V HF1.out (fun hp => ⟨rfl, _, rfl, HVC.out _ HM3.out⟩) HF2.out HO1.out ?_; intro w4 hB4 hm4) | fail)
  go_ret
  have hm : Mds [g] w w4 := (((by (repeat (first | assumption | exact Ext.refl _ | apply Ext.drew | apply Ext.drewN | apply Ext.alloc | refine Ext.trans ?_ (by assumption))); first | done | fail) : Ext w w.drew).mds [g]).trans (HM3.out.trans hm4)
  exact ⟨_, _, rfl, Own.of_cells hB4.out HFL.out HTG.out HGM.out (Nat.zero_le _) HLL.out HFIN.out, hm.mono (fun k hk => by simpa [fpv, Value.ownBlock] using hk), fun k hk => .inl (by simpa [fpv, Value.ownBlock] using hk)⟩
end Go.Proofs.YthookcnkmlmgcaaGreatDoor
namespace Go.Proofs.YthookcnkmlmgcaaGreatDoor
open Go Go.RowKit
set_option maxRecDepth 4000

abbrev wtt : TypeId := 122
def vIn (n : Nat) : Value := .int .i64 (n : Int)
theorem vIn_one (n : Nat) : (vIn n).oneCell' = true := rfl
theorem inI : (Tryz.prog.info? 3).map (fun i => (i.zero, i.size, i.bytes)) = some (some (.int .i64 0), 1, 8) := by kernel_rfl
theorem szWt : (Tryz.prog.info? wtt).map (·.size) = some 3 := by kernel_rfl
/-- a writer's cells -/
structure Wt (w : World) (p : Nat) (vw vo : Value) (L : List (BitVec 8)) (P : List Nat) : Prop where
  blk : Blk w p wtt #[vw, vo, .nilIface]
  ow : Own w 0 vw L.length L
  oo : Rw 3 vIn w 0 vo P.length P
/-- the blocks that a writer lies in -/
def fpW (p : Nat) (vw vo : Value) : List Nat := p :: (fpv vw ++ fpv vo)
theorem mem_fpW {p k : Nat} {vw vo : Value} : k ∈ fpW p vw vo ↔ k = p ∨ k ∈ fpv vw ∨ k ∈ fpv vo := by unfold fpW; simp
/-- a writer in its blocks -/
inductive Wr (w : World) (p : Nat) : List Nat → TWs → Prop where
  | ok {vw vo : Value} {cur : List (BitVec 8)} {st : List (BitVec 8 × List (BitVec 8))} (h : Wt w p vw vo (flatT cur st) (posT st)) : Wr w p (fpW p vw vo) (.ok cur st)
  | bad {c : Nat} (h : Blk w p wtt #[.slice none 0 0, .slice none 0 0, err c]) : Wr w p [p] (.bad c)
section
variable {w w' : World} {p : Nat} {vw vo : Value} {L : List (BitVec 8)} {P : List Nat} {G H : List Nat} {s : TWs}
theorem Wt.mds (h : Wt w p vw vo L P) (hm : Mds H w w') (ha : Ap (fpW p vw vo) H) : Wt w' p vw vo L P :=
  ⟨h.blk.mds hm (ha p (mem_fpW.2 (.inl rfl))), (h.ow.rw.mds hm fun k hk => ha k (mem_fpW.2 (.inr (.inl hk)))).own, h.oo.mds hm fun k hk => ha k (mem_fpW.2 (.inr (.inr hk)))⟩
theorem Wt.ext (h : Wt w p vw vo L P) (hx : Ext w w') : Wt w' p vw vo L P := ⟨h.blk.ext hx, h.ow.ext hx, h.oo.ext hx⟩
theorem Wt.hi (h : Wt w p vw vo L P) : Hi w (fpW p vw vo) := fun k hk => by
  rcases mem_fpW.1 hk with rfl | hk | hk
  · exact h.blk.lt
  · exact h.ow.rw.fp_lt k hk
  · exact h.oo.fp_lt k hk
theorem Wr.hi (h : Wr w p G s) : Hi w G := by
  cases h with
  | ok h => exact h.hi
  | bad h => intro k hk; rw [List.mem_singleton.1 hk]; exact h.lt
theorem Wr.mds (h : Wr w p G s) (hm : Mds H w w') (ha : Ap G H) : Wr w' p G s := by
  cases h with
  | ok h => exact .ok (h.mds hm ha)
  | bad h => exact .bad (h.mds hm (ha p (by simp)))
theorem Wr.ext (h : Wr w p G s) (hx : Ext w w') : Wr w' p G s := by
  cases h with
  | ok h => exact .ok (h.ext hx)
  | bad h => exact .bad (h.ext hx)
theorem Wr.mem (h : Wr w p G s) : p ∈ G := by
  cases h with
  | ok h => exact mem_fpW.2 (.inl rfl)
  | bad h => simp
/-- what the writer's field written is turned into -/
theorem Wt.put {vw' : Value} {L' : List (BitVec 8)} (h : Wt w p vw vo L P) (hm : Mvs (fpv vw) (fpv vw') w w') (ho : Own w' 0 vw' L'.length L') :
    Wt (w'.setCell ⟨p, 0, none⟩ vw') p vw' vo L' P ∧ Mvs (fpW p vw vo) (fpW p vw' vo) w (w'.setCell ⟨p, 0, none⟩ vw') := by
  have h1 := h.blk.mds hm.m (h.ow.rw.ne h.blk (by decide))
  have h2 : Rw 3 vIn w' 0 vo P.length P := h.oo.mds hm.m (h.oo.apart h.ow.rw (by decide))
  refine ⟨⟨h1.set_ 0 vw', ?_, ?_⟩, ?_, ?_⟩
  · exact ho.far (p := ⟨p, 0, none⟩) (fun e => ho.rw.ne h1 (by decide) (mem_fpv.2 e)) _
  · exact h2.far (p := ⟨p, 0, none⟩) (fun e => h2.ne h1 (by decide) (mem_fpv.2 e)) _
  · exact (hm.m.mono fun k hk => mem_fpW.2 (.inr (.inl hk))).setCell (p := ⟨p, 0, none⟩) (mem_fpW.2 (.inl rfl)) _
  · intro k hk
    rcases mem_fpW.1 hk with rfl | hk | hk
    · exact .inl (mem_fpW.2 (.inl rfl))
    · rcases hm.f k hk with e | e
      · exact .inl (mem_fpW.2 (.inr (.inl e)))
      · exact .inr e
    · exact .inl (mem_fpW.2 (.inr (.inr hk)))
theorem Wt.at0 {vw' : Value} (h : Wt w p vw vo L P) (hm : Mvs (fpv vw) (fpv vw') w w') : w'.cell? ⟨p, 0, none⟩ = some vw ∧ w'.frozen? ⟨p, 0, none⟩ = false := by
  have h1 := h.blk.mds hm.m (h.ow.rw.ne h.blk (by decide))
  exact ⟨h1.h.cell 0, h1.h.frozen 0⟩
theorem Wt.at1 {vo' : Value} (h : Wt w p vw vo L P) (hm : Mvs (fpv vo) (fpv vo') w w') : w'.cell? ⟨p, 1, none⟩ = some vo ∧ w'.frozen? ⟨p, 1, none⟩ = false := by
  have h1 := h.blk.mds hm.m (h.oo.ne h.blk (by decide))
  exact ⟨h1.h.cell 1, h1.h.frozen 1⟩
theorem fpW_w {k : Nat} (h : k ∈ fpv vw) : k ∈ fpW p vw vo := mem_fpW.2 (.inr (.inl h))
theorem fpW_o {k : Nat} (h : k ∈ fpv vo) : k ∈ fpW p vw vo := mem_fpW.2 (.inr (.inr h))
/-- .. and its field open -/
theorem Wt.hold {vo' : Value} {P' : List Nat} (h : Wt w p vw vo L P) (hm : Mvs (fpv vo) (fpv vo') w w') (ho : Rw 3 vIn w' 0 vo' P'.length P') :
    Wt (w'.setCell ⟨p, 1, none⟩ vo') p vw vo' L P' ∧ Mvs (fpW p vw vo) (fpW p vw vo') w (w'.setCell ⟨p, 1, none⟩ vo') := by
  have h1 := h.blk.mds hm.m (h.oo.ne h.blk (by decide))
  have h2 : Rw 5 vb w' 0 vw L.length L := h.ow.rw.mds hm.m (h.ow.rw.apart h.oo (by decide))
  refine ⟨⟨h1.set_ 1 vo', ?_, ?_⟩, ?_, ?_⟩
  · exact (h2.far (p := ⟨p, 1, none⟩) (fun e => h2.ne h1 (by decide) (mem_fpv.2 e)) _).own
  · exact ho.far (p := ⟨p, 1, none⟩) (fun e => ho.ne h1 (by decide) (mem_fpv.2 e)) _
  · exact (hm.m.mono fun k hk => mem_fpW.2 (.inr (.inr hk))).setCell (p := ⟨p, 1, none⟩) (mem_fpW.2 (.inl rfl)) _
  · intro k hk
    rcases mem_fpW.1 hk with rfl | hk | hk
    · exact .inl (mem_fpW.2 (.inl rfl))
    · exact .inl (mem_fpW.2 (.inr (.inl hk)))
    · rcases hm.f k hk with e | e
      · exact .inl (mem_fpW.2 (.inr (.inr e)))
      · exact .inr e
end
/-- how a writer's call ends -/
def WrR (w : World) (p : Nat) (G : List Nat) (s : TWs) (e : Ending) (w' : World) : Prop := e = .returned (.tuple #[]) ∧ ∃ G', Wr w' p G' s ∧ Mvs G G' w w'
theorem one_bad (c : Int) : (#[Value.slice none 0 0, Value.slice none 0 0, err c] : Array Value).all (·.oneCell') = true := by simp [Value.oneCell']
set_option maxHeartbeats 1000000 in
theorem fail_any {w : World} {p : Nat} {cs : Array Value} (h : Blk w p wtt cs) (hs : cs.size = 3) (c : Nat) :
    Calls Tryz.prog 80 #[.pointer (some ⟨p, 0, none⟩), err c] w fun e w' => e = .returned (.tuple #[]) ∧ Blk w' p wtt #[.slice none 0 0, .slice none 0 0, err c] ∧ Mds [p] w w' := by
  have H := Kp.mk h
  have HS := Kp.mk hs
  clear h hs
  go_enter Tryz.func80, Tryz.ntmps80
  go_wp2_with (first | ((with_reducible refine at_store 7 6 ?_); refine wpList_store_row rfl wtt _ _ rfl p #[.slice none 0 0, .slice none 0 0, err c] rfl rfl wtt _ H.out.h szWt HS.out (one_bad c) ?_) | fail)
  go_end0
  exact ⟨rfl, H.out.row _, (Mds.refl [p] w).setRow (by simp) _⟩
end Go.Proofs.YthookcnkmlmgcaaGreatDoor
