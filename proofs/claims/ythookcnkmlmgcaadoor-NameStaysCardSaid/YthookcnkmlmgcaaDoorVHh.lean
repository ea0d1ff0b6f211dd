/-
  slices.Replace in a row with room.
-/
import Derived.Test.YthookcnkmlmgcaaDoorM14
namespace Go.Proofs.YthookcnkmlmgcaaDoor
open Go Go.RowKit
set_option maxRecDepth 4000

set_option maxHeartbeats 8000000 in
theorem Replace_in {w : World} {g i k N c nv cv : Nat} {Av : Option Addr} {L lv : List (BitVec 8)} (ho : Own w 0 (.slice (some ⟨g, 0, none⟩) N c) N L) (hv : Own w 0 (.slice Av nv cv) nv lv) (hgv : Av.map (·.block) ≠ some g) (hn : 2 ≤ nv) (hn4 : nv ≤ 4) (hN : i + 1 + k = N) (hk : 0 < k) (hb : N ≤ 100000000000000) (hc : i + nv + k ≤ c) :
    Calls Tryd.prog 64 #[.slice (some ⟨g, 0, none⟩) N c, .int .i64 (i : Int), .int .i64 ((i : Int) + 1), .slice Av nv cv] w (RepR w (.slice (some ⟨g, 0, none⟩) N c) (i + nv + k) (L.take i ++ lv ++ L.drop (i + 1))) := by
  obtain ⟨cur, hB, hcl, hNc, hcm, ht⟩ := ho.cells_
  have hLl := ho.len
  have hs1 := fun W => run_mid (P := Tryd.prog) g N c 29 5 Tryd.underlying29 szB i (i + 1) (i : Int) ((i : Int) + 1) rfl (by omega) (by omega) (by omega) (by omega) W
  have hs2 := fun W => run_upto (P := Tryd.prog) (some ⟨g, 0, none⟩) N c 29 5 Tryd.underlying29 szB i (i : Int) rfl (by omega) W
  have hs3 := fun W => run_from (P := Tryd.prog) (some ⟨g, 0, none⟩) N c 29 5 Tryd.underlying29 szB (i + 1) ((i : Int) + 1) (by omega) (by omega) W
  simp only [if_neg (show ¬ c = i + 1 by omega), Option.map_some, add_z, show N - (i + 1) = k by omega] at hs3
  have b1 : ((i : Int) == (i : Int) + 1) = false := beq_eq_false_iff_ne.2 (by omega)
  have b2 : ((i : Int) + 1 == (N : Int)) = false := beq_eq_false_iff_ne.2 (by omega)
  have b4 : IntKind.i64.wrap ((i : Int) + (nv : Int)) = (i : Int) + (nv : Int) := by rw [IntKind.wrap_i64]; omega
  have b5 : IntKind.i64.wrap ((i : Int) + (nv : Int) + (k : Int)) = ((i + nv + k : Nat) : Int) := by rw [IntKind.wrap_i64]; omega
  obtain ⟨T, hT⟩ : ∃ T, i + nv + k = T := ⟨_, rfl⟩
  rw [hT] at b5 ⊢
  have b6 : decide ((c : Int) < (T : Int)) = false := decide_eq_false (by omega)
  have b8 : decide ((i : Int) + (nv : Int) ≤ (i : Int) + 1) = false := decide_eq_false (by omega)
  have b9 : decide ((nv : Int) ≤ 1) = false := decide_eq_false (by omega)
  have b10 : decide (nv ≤ 1) = false := decide_eq_false (by omega)
  have hs4 := fun W => run_upto (P := Tryd.prog) (some ⟨g, 0, none⟩) N c 29 5 Tryd.underlying29 szB T (T : Int) rfl (by omega) W
  have hs5 := fun W => run_from (P := Tryd.prog) (some ⟨g, 0, none⟩) T c 29 5 Tryd.underlying29 szB (i + nv) ((i : Int) + (nv : Int)) (by omega) (by omega) W
  simp only [if_neg (show ¬ c = i + nv by omega), Option.map_some, add_z, show T - (i + nv) = k by omega] at hs5
  have hs6 := fun W => run_from (P := Tryd.prog) (some ⟨g, 0, none⟩) T c 29 5 Tryd.underlying29 szB i (i : Int) rfl (by omega) W
  simp only [if_neg (show ¬ c = i by omega), Option.map_some, add_z] at hs6
  obtain ⟨q, hq⟩ : ∃ q, T - i = q := ⟨_, rfl⟩
  rw [hq] at hs6
  obtain ⟨gv, rfl, _, hgl⟩ := hv.some_ (by omega)
  have hne : g ≠ gv := fun e => hgv (by simp [e])
  obtain ⟨cv0, hBv, hcvl, hnv, _, _⟩ := hv.cells_
  have hov : ∀ (lb cb la ca : Nat), (callFunc 78 #[.slice (some ⟨g, i + nv, none⟩) la ca, .slice (some ⟨gv, 0, none⟩) lb cb]).run Tryd.prog w.drew = .ok (.value (.bool false)) w.drew := fun lb cb la ca => by
    rw [run_callFunc_extern Tryd.func78 (by kernel_rfl) (by kernel_rfl) (by kernel_rfl) (e := Extern.SlicesOverlaps.overlaps #[29, 29] #[4]) (by kernel_rfl),
      Lib.run_overlaps_apart w.drew 29 4 5 Tryd.underlying29 1 (fun W => by
        obtain ⟨i, hi, hz, hs, hb⟩ := info_parts inB
        simp [sizeOf, typeInfo, hi, hs]) ⟨g, i + nv, none⟩ ⟨gv, 0, none⟩ la ca lb cb hne 5 5 c cv (by
        have := hB.h
        unfold Has at this
        show World.shape? w g = _
        unfold World.shape?
        rw [this]; simp [hcl]) (by
        have := hBv.h
        unfold Has at this
        show World.shape? w gv = _
        unfold World.shape?
        rw [this]; simp [hcvl]) (by omega) (hB.h.frozen _) (hB.h.frozen _)]
    rfl
  have hB1 : Blk w.drew g 5 cur.toArray := hB.ext (by (repeat (first | assumption | exact Ext.refl _ | apply Ext.drew | apply Ext.drewN | apply Ext.alloc | refine Ext.trans ?_ (by assumption))); first | done | fail)
  have hV1 := hv.bs.ext ((by (repeat (first | assumption | exact Ext.refl _ | apply Ext.drew | apply Ext.drewN | apply Ext.alloc | refine Ext.trans ?_ (by assumption))); first | done | fail) : Ext w w.drew)
  have hvl := hv.len
  have hdl : ((L.drop (i + 1)).map vb).length = k := by rw [List.length_map, List.length_drop]; omega
  have HB1 := Kp.mk hB1
  have hf1 : (lv.map vb).length = Nat.min nv q := by rw [List.length_map, hvl]; show nv = min nv q; omega
  have HF1 := Kp.mk hf1
  have HD : Kp (((L.drop (i + 1)).map vb).length = Nat.min k k) := ⟨by rw [hdl]; show k = min k k; omega⟩
  have hE : i + nv + ((L.drop (i + 1)).map vb).length ≤ cur.length := by rw [hdl]; omega
  have HE := Kp.mk hE
  have hF2 : i + (lv.map vb).length ≤ (splice cur (i + nv) ((L.drop (i + 1)).map vb)).length := by rw [length_splice _ _ _ hE, List.length_map, hvl]; omega
  have HF2 := Kp.mk hF2
  have HV := Kp.mk (fun (hp : 0 < (lv.map vb).length) (w' : World) (hm : Mds [g] w.drew w') => (hV1.s.2.2.2 (by rw [List.length_map, hvl] at hp; exact hp)))
  have HVC : Kp (∀ w', Mds [g] w.drew w' → ∀ (j : Nat) (v : Value), (lv.map vb)[j]? = some v → w'.cell? ((⟨gv, 0, none⟩ : Addr).add j) = some v) := ⟨fun w' hm j v hj => by
    have hjl : j < nv := by have := (List.getElem?_eq_some_iff.1 hj).1; simpa [hvl] using this
    rw [add_z, (hm.block gv hgl (by simpa using fun e => hne e.symm) |> fun e => World.cell?_of_block (w := w.drew) (a := ⟨gv, j, none⟩) e)]
    have h1 : w.cell? ⟨gv, j, none⟩ = some (.int .u8 (ub (gb lv j))) := hv.cell j hjl
    have h2 : (lv.map vb)[j]? = some (.int .u8 (ub (gb lv j))) := by
      rw [List.getElem?_map, List.getElem?_eq_getElem (by omega)]
      simp [gb, show j < lv.length by omega]
    rw [h2] at hj
    rw [← hj]
    exact h1⟩
  have HC : Kp (∀ (j : Nat) (v : Value), ((L.drop (i + 1)).map vb)[j]? = some v → cur[i + 1 + j]? = some v) := ⟨fun j v hj => tail_cells ht hLl j v hj⟩
  have HFIN : Kp (((splice (splice cur (i + nv) ((L.drop (i + 1)).map vb)) i (lv.map vb)).take T) = (L.take i ++ lv ++ L.drop (i + 1)).map vb) := ⟨by
    have h1 := splice_behind cur (lv.map vb) ((L.drop (i + 1)).map vb) i (by rw [List.length_map, hvl, hdl]; omega)
    rw [hdl, List.length_map, hvl, hT] at h1
    have h2 : cur.take i = (L.take i).map vb := by
      rw [List.map_take, ← ht, List.take_take, Nat.min_eq_left (by omega)]
    rw [h1, h2, List.map_append, List.map_append]⟩
  have HFL : Kp ((splice (splice cur (i + nv) ((L.drop (i + 1)).map vb)) i (lv.map vb)).length = c) := ⟨by rw [length_splice _ _ _ hF2, length_splice _ _ _ hE, hcl]⟩
  have HLL : Kp ((L.take i ++ lv ++ L.drop (i + 1)).length = T) := ⟨by rw [List.length_append, List.length_append, List.length_take, List.length_drop, hvl]; omega⟩
  have HO1 : Kp (∀ v ∈ lv.map vb, v.oneCell' = true) := ⟨one_vb' _⟩
  have HO2 : Kp (∀ v ∈ (L.drop (i + 1)).map vb, v.oneCell' = true) := ⟨one_vb' _⟩
  have HTG : Kp (T ≤ c) := ⟨by omega⟩
  have HGM := Kp.mk hcm
  have HT : Kp (T ≤ (c : Int)) := ⟨by omega⟩
  have b11 : (T : Int) ≤ (c : Int) := by omega
  clear ho hv hB hcl hNc hcm ht hB1 hf1 hF2 hE hV1 hvl hdl hLl hgv hc hn hn4 hb hk hT hq hN hBv hcvl hnv hgl
  generalize (L.drop (i + 1)).map vb = X at *
  generalize (lv.map vb) = V at *
  go_enter Tryd.func64, Tryd.ntmps64
  go_wp2_with fail
  refine wp_region_held_drew (S := fun _ => True) (by kernel_rfl) trivial (fun hHeld => ?_)
  refine wpAnyH_take (i := 0) (oi := ⟨some 45, _, _, _, _, _⟩) (v := ?_) rfl (by kernel_rfl) (by kernel_rfl) (by kernel_rfl) (fun _ _ _ h => h) (Or.inl ⟨by rfl, ?_⟩) (by assumption) ?_
  rotate_left
  · (intro w hSw; (try dsimp only at hSw); go_simp; try with_reducible rfl)
  try simp only [Act.put, List.setIfInBounds_toArray, List.set_cons_zero, List.set_cons_succ]
  refine wpAnyH_take (i := 1) (oi := ⟨some 46, _, _, _, _, _⟩) (v := ?_) rfl (by kernel_rfl) (by kernel_rfl) (by kernel_rfl) (fun _ _ _ h => h) (Or.inl ⟨by rfl, ?_⟩) (by assumption) ?_
  rotate_left
  · (intro w hSw; (try dsimp only at hSw); go_simp; try with_reducible rfl)
  try simp only [Act.put, List.setIfInBounds_toArray, List.set_cons_zero, List.set_cons_succ]
  refine wpAnyH_take (i := 2) (oi := ⟨some 47, _, _, _, _, _⟩) (v := ?_) rfl (by kernel_rfl) (by kernel_rfl) (by kernel_rfl) (fun _ _ _ h => h) (Or.inl ⟨by rfl, ?_⟩) (by assumption) ?_
  rotate_left
  · (intro w hSw; (try dsimp only at hSw); go_simp; try with_reducible rfl)
  try simp only [Act.put, List.setIfInBounds_toArray, List.set_cons_zero, List.set_cons_succ]
  refine wpAnyH_take (i := 3) (oi := ⟨some 48, _, _, _, _, _⟩) (v := ?_) rfl (by kernel_rfl) (by kernel_rfl) (by kernel_rfl) (fun _ _ _ h => h) (Or.inl ⟨by rfl, ?_⟩) (by assumption) ?_
  rotate_left
  · (intro w hSw; (try dsimp only at hSw); go_simp; try with_reducible rfl)
  try simp only [Act.put, List.setIfInBounds_toArray, List.set_cons_zero, List.set_cons_succ]
  refine wpAnyH_take (i := 4) (oi := ⟨some 49, _, _, _, _, _⟩) (v := ?_) rfl (by kernel_rfl) (by kernel_rfl) (by kernel_rfl) (fun _ _ _ h => h) (Or.inl ⟨by rfl, ?_⟩) (by assumption) ?_
  rotate_left
  · (intro w hSw; (try dsimp only at hSw); go_simp; try with_reducible rfl)
  try simp only [Act.put, List.setIfInBounds_toArray, List.set_cons_zero, List.set_cons_succ]
  refine wpAnyH_take (i := 5) (oi := ⟨some 50, _, _, _, _, _⟩) (v := ?_) rfl (by kernel_rfl) (by kernel_rfl) (by kernel_rfl) (fun _ _ _ h => h) (Or.inl ⟨by rfl, ?_⟩) (by assumption) ?_
  rotate_left
  · (intro w hSw; (try dsimp only at hSw); go_simp; try with_reducible rfl)
  try simp only [Act.put, List.setIfInBounds_toArray, List.set_cons_zero, List.set_cons_succ]
  refine wpAnyH_take (i := 6) (oi := ⟨some 51, _, _, _, _, _⟩) (v := ?_) rfl (by kernel_rfl) (by kernel_rfl) (by kernel_rfl) (fun _ _ _ h => h) (Or.inl ⟨by rfl, ?_⟩) (by assumption) ?_
  rotate_left
  · (intro w hSw; (try dsimp only at hSw); go_simp; try with_reducible rfl)
  try simp only [Act.put, List.setIfInBounds_toArray, List.set_cons_zero, List.set_cons_succ]
  refine wpAnyH_take (i := 7) (oi := ⟨some 52, _, _, _, _, _⟩) (v := ?_) rfl (by kernel_rfl) (by kernel_rfl) (by kernel_rfl) (fun _ _ _ h => h) (Or.inl ⟨by rfl, ?_⟩) (by assumption) ?_
  rotate_left
  · (intro w hSw; (try dsimp only at hSw); go_simp; try with_reducible rfl)
  try simp only [Act.put, List.setIfInBounds_toArray, List.set_cons_zero, List.set_cons_succ]
  refine wpAnyH_take (i := 8) (oi := ⟨some 53, _, _, _, _, _⟩) (v := ?_) rfl (by kernel_rfl) (by kernel_rfl) (by kernel_rfl) (fun _ _ _ h => h) (Or.inl ⟨by rfl, ?_⟩) (by assumption) ?_
  rotate_left
  · (intro w hSw; (try dsimp only at hSw); go_simp; try with_reducible rfl)
  try simp only [Act.put, List.setIfInBounds_toArray, List.set_cons_zero, List.set_cons_succ]
  refine wpAnyH_take (i := 9) (oi := ⟨some 54, _, _, _, _, _⟩) (v := ?_) rfl (by kernel_rfl) (by kernel_rfl) (by kernel_rfl) (fun _ _ _ h => h) (Or.inl ⟨by rfl, ?_⟩) (by assumption) ?_
  rotate_left
  · (intro w hSw; (try dsimp only at hSw); go_simp; try with_reducible rfl)
  try simp only [Act.put, List.setIfInBounds_toArray, List.set_cons_zero, List.set_cons_succ]
  refine wpAnyH_take (i := 10) (oi := ⟨some 55, _, _, _, _, _⟩) (v := ?_) rfl (by kernel_rfl) (by kernel_rfl) (by kernel_rfl) (fun _ _ _ h => h) (Or.inl ⟨by rfl, ?_⟩) (by assumption) ?_
  rotate_left
  · (intro w hSw; (try dsimp only at hSw); go_simp; try with_reducible rfl)
  try simp only [Act.put, List.setIfInBounds_toArray, List.set_cons_zero, List.set_cons_succ]
  refine wpAnyH_take (i := 11) (oi := ⟨some 56, _, _, _, _, _⟩) (v := ?_) rfl (by kernel_rfl) (by kernel_rfl) (by kernel_rfl) (fun _ _ _ h => h) (Or.inl ⟨by rfl, ?_⟩) (by assumption) ?_
  rotate_left
  · (intro w hSw; (try dsimp only at hSw); go_simp; try with_reducible rfl)
  try simp only [Act.put, List.setIfInBounds_toArray, List.set_cons_zero, List.set_cons_succ]
  refine wpAnyH_take (i := 12) (oi := ⟨some 10, _, _, _, _, _⟩) (v := ?_) rfl (by kernel_rfl) (by kernel_rfl) (by kernel_rfl) (fun _ _ _ h => h) (Or.inl ⟨by rfl, ?_⟩) (by assumption) ?_
  rotate_left
  · (intro w hSw; (try dsimp only at hSw); go_simp; try with_reducible rfl)
  try simp only [Act.put, List.setIfInBounds_toArray, List.set_cons_zero, List.set_cons_succ]
  refine wpAnyH_done (by kernel_rfl) ?_ _
  go_wp2_with fail
  refine wp_region_held_drew (S := fun _ => True) (by kernel_rfl) trivial (fun hHeld => ?_)
  refine wpAnyH_take (i := 0) (oi := ⟨some 121, _, _, _, _, _⟩) (v := ?_) rfl (by kernel_rfl) (by kernel_rfl) (by kernel_rfl) (fun _ _ _ h => h) (Or.inl ⟨by rfl, ?_⟩) (by assumption) ?_
  rotate_left
  · (intro w hSw; (try dsimp only at hSw); go_simp; try with_reducible rfl)
  try simp only [Act.put, List.setIfInBounds_toArray, List.set_cons_zero, List.set_cons_succ]
  refine wpAnyH_take (i := 1) (oi := ⟨some 122, _, _, _, _, _⟩) (v := ?_) rfl (by kernel_rfl) (by kernel_rfl) (by kernel_rfl) (fun _ _ _ h => h) (Or.inl ⟨by rfl, ?_⟩) (by assumption) ?_
  rotate_left
  · (intro w hSw; (try dsimp only at hSw); go_simp; try with_reducible rfl)
  try simp only [Act.put, List.setIfInBounds_toArray, List.set_cons_zero, List.set_cons_succ]
  refine wpAnyH_take (i := 2) (oi := ⟨some 123, _, _, _, _, _⟩) (v := ?_) rfl (by kernel_rfl) (by kernel_rfl) (by kernel_rfl) (fun _ _ _ h => h) (Or.inl ⟨by rfl, ?_⟩) (by assumption) ?_
  rotate_left
  · (intro w hSw; (try dsimp only at hSw); go_simp; try with_reducible rfl)
  try simp only [Act.put, List.setIfInBounds_toArray, List.set_cons_zero, List.set_cons_succ]
  refine wpAnyH_take (i := 3) (oi := ⟨some 124, _, _, _, _, _⟩) (v := ?_) rfl (by kernel_rfl) (by kernel_rfl) (by kernel_rfl) (fun _ _ _ h => h) (Or.inl ⟨by rfl, ?_⟩) (by assumption) ?_
  rotate_left
  · (intro w hSw; (try dsimp only at hSw); go_simp; try with_reducible rfl)
  try simp only [Act.put, List.setIfInBounds_toArray, List.set_cons_zero, List.set_cons_succ]
  refine wpAnyH_take (i := 4) (oi := ⟨some 125, _, _, _, _, _⟩) (v := ?_) rfl (by kernel_rfl) (by kernel_rfl) (by kernel_rfl) (fun _ _ _ h => h) (Or.inl ⟨by rfl, ?_⟩) (by assumption) ?_
  rotate_left
  · (intro w hSw; (try dsimp only at hSw); go_simp; try with_reducible rfl)
  try simp only [Act.put, List.setIfInBounds_toArray, List.set_cons_zero, List.set_cons_succ]
  refine wpAnyH_take (i := 5) (oi := ⟨some 126, _, _, _, _, _⟩) (v := ?_) rfl (by kernel_rfl) (by kernel_rfl) (by kernel_rfl) (fun _ _ _ h => h) (Or.inl ⟨by rfl, ?_⟩) (by assumption) ?_
  rotate_left
  · (intro w hSw; (try dsimp only at hSw); go_simp; try with_reducible rfl)
  try simp only [Act.put, List.setIfInBounds_toArray, List.set_cons_zero, List.set_cons_succ]
  refine wpAnyH_take (i := 6) (oi := ⟨some 127, _, _, _, _, _⟩) (v := ?_) rfl (by kernel_rfl) (by kernel_rfl) (by kernel_rfl) (fun _ _ _ h => h) (Or.inl ⟨by rfl, ?_⟩) (by assumption) ?_
  rotate_left
  · (intro w hSw; (try dsimp only at hSw); go_simp; try with_reducible rfl)
  try simp only [Act.put, List.setIfInBounds_toArray, List.set_cons_zero, List.set_cons_succ]
  refine wpAnyH_take (i := 7) (oi := ⟨some 128, _, _, _, _, _⟩) (v := ?_) rfl (by kernel_rfl) (by kernel_rfl) (by kernel_rfl) (fun _ _ _ h => h) (Or.inl ⟨by rfl, ?_⟩) (by assumption) ?_
  rotate_left
  · (intro w hSw; (try dsimp only at hSw); go_simp; try with_reducible rfl)
  try simp only [Act.put, List.setIfInBounds_toArray, List.set_cons_zero, List.set_cons_succ]
  refine wpAnyH_take (i := 8) (oi := ⟨some 129, _, _, _, _, _⟩) (v := ?_) rfl (by kernel_rfl) (by kernel_rfl) (by kernel_rfl) (fun _ _ _ h => h) (Or.inl ⟨by rfl, ?_⟩) (by assumption) ?_
  rotate_left
  · (intro w hSw; (try dsimp only at hSw); go_simp; try with_reducible rfl)
  try simp only [Act.put, List.setIfInBounds_toArray, List.set_cons_zero, List.set_cons_succ]
  refine next_one 9 (by kernel_rfl) rfl (by rfl) fun K' HK' => ?_
  refine wp_copy_at (o := ⟨some 130, _, _, _, _, _⟩) (.tmp 126) (.tmp 129) 29 29 rfl 5 Tryd.underlying29 szB (some ⟨g, i + nv, none⟩) (some ⟨g, i + 1, none⟩) k (c - (i + nv)) k (c - (i + 1)) rfl rfl g (i + nv) cur 5 (HB1.out.ext (by (repeat (first | assumption | exact Ext.refl _ | apply Ext.drew | apply Ext.drewN | apply Ext.alloc | refine Ext.trans ?_ (by assumption))); first | done | fail)) X HD.out (fun _ => ⟨rfl, _, rfl, ?src⟩) HE.out HO2.out ?_
  case src =>
    intro j v hj
    have h1 := HC.out j v hj
    rw [show (⟨g, i + 1, none⟩ : Addr).add j = ⟨g, i + 1 + j, none⟩ by unfold Addr.add; split <;> simp_all]
    rw [(HB1.out.ext ((by (repeat (first | assumption | exact Ext.refl _ | apply Ext.drew | apply Ext.drewN | apply Ext.alloc | refine Ext.trans ?_ (by assumption))); first | done | fail) : Ext w.drew w.drew.drew)).h.cell]
    simpa using h1
  intro w3 hB3 hm3
  refine held_go HK' trivial (fun hHeld => ?_)
  clear HK'
  try simp only [Act.put, List.setIfInBounds_toArray, List.set_cons_zero, List.set_cons_succ]
  refine wpAnyH_done (by kernel_rfl) ?_ _
  have HM3 := Kp.mk ((((by (repeat (first | assumption | exact Ext.refl _ | apply Ext.drew | apply Ext.drewN | apply Ext.alloc | refine Ext.trans ?_ (by assumption))); first | done | fail) : Ext w.drew w.drew.drew).mds [g]).trans hm3)
  clear hm3
  go_wp2_with (first | (with_reducible refine at_call_to 135 ?_; refine wpList_copy_at (o := ⟨some 135, _, _, _, _, _⟩) rfl (.tmp 133) (.tmp 134) 29 29 rfl 5 Tryd.underlying29 szB (some ⟨g, i, none⟩) (some ⟨gv, 0, none⟩) q (c - i) nv cv rfl rfl g i (splice cur (i + nv) X) 5 hB3.out V HF1.out (fun hp => ⟨rfl, _, rfl, HVC.out _ HM3.out⟩) HF2.out HO1.out ?_; intro w4 hB4 hm4) | fail)
  go_ret
  have hm : Mds [g] w w4 := (((by (repeat (first | assumption | exact Ext.refl _ | apply Ext.drew | apply Ext.drewN | apply Ext.alloc | refine Ext.trans ?_ (by assumption))); first | done | fail) : Ext w w.drew).mds [g]).trans (HM3.out.trans hm4)
  exact ⟨_, _, rfl, Own.of_cells hB4.out HFL.out HTG.out HGM.out (Nat.zero_le _) HLL.out HFIN.out, hm.mono (fun k hk => by simpa [fpv, Value.ownBlock] using hk), fun k hk => .inl (by simpa [fpv, Value.ownBlock] using hk)⟩
end Go.Proofs.YthookcnkmlmgcaaDoor
