/-
  name: compareSenses, sameSense.
-/
import Derived.Test.YthookcnkmlmgcaaDoorVIn
import Derived.Test.YthookcnkmlmgcaaDoorM4
import Derived.Lib.Bytealg
import Derived.Lib.BytesEntry
import Derived.Sort.Grow
namespace Go.Proofs.YthookcnkmlmgcaaDoor
open Go Go.RowKit Go.Sort
set_option maxRecDepth 4000

theorem cmpB_eq : ∀ x y : List (BitVec 8), Lib.compareBytes (x.map UInt8.ofBitVec) (y.map UInt8.ofBitVec) = cmpB x y
  | [], [] => rfl
  | [], _ :: _ => rfl
  | _ :: _, [] => rfl
  | a :: x, b :: y => by
    have ih := cmpB_eq x y
    show (if UInt8.ofBitVec a < UInt8.ofBitVec b then (-1 : Int) else if UInt8.ofBitVec b < UInt8.ofBitVec a then 1 else Lib.compareBytes (x.map UInt8.ofBitVec) (y.map UInt8.ofBitVec)) = (if a.toNat < b.toNat then (-1 : Int) else if b.toNat < a.toNat then 1 else cmpB x y)
    rw [ih]
    rfl
theorem run_bytesOf9 {l : List (BitVec 8)} {A : Option Addr} {n c : Nat} {w : World} (h : Bs w A n c l) : (Extern.Bytes.bytesOf (.slice A n c)).run Tryd.prog w = .ok ⟨(l.map UInt8.ofBitVec).toArray⟩ w := by
  have hlen := h.len
  cases A with
  | none =>
    obtain ⟨rfl, _⟩ := h.s.2.2.1 rfl
    obtain rfl : l = [] := List.eq_nil_of_length_eq_zero hlen
    rfl
  | some a =>
    have e : Lib.bytesOf (l.map ub) = l.map UInt8.ofBitVec := by
      unfold Lib.bytesOf
      rw [List.map_map]
      refine List.map_congr_left fun x _ => ?_
      apply UInt8.eq_of_toBitVec_eq
      simp [ub]
    have hl := Lib.run_loadBytesX (P := Tryd.prog) w (l.map ub) a .empty (fun j x hj => by
      have hjl : j < l.length := by have := (List.getElem?_eq_some_iff.1 hj).1; rwa [List.length_map] at this
      obtain ⟨g, o, ea, hc⟩ := h.s.2.2.2 (by omega)
      cases ea
      have e2 : (⟨g, o, none⟩ : Addr).add j = ⟨g, o + j, none⟩ := by unfold Addr.add; split <;> simp_all
      rw [e2, hc j (by omega)]
      rw [List.getElem?_map, List.getElem?_eq_getElem hjl] at hj
      cases hj
      simp [gb, hjl])
    rw [List.length_map, hlen, e] at hl
    have he : (⟨ByteArray.empty.data ++ (l.map UInt8.ofBitVec).toArray⟩ : ByteArray) = ⟨(l.map UInt8.ofBitVec).toArray⟩ := by
      apply ByteArray.ext
      show (#[] : Array UInt8) ++ _ = _
      simp
    rw [he] at hl
    exact hl
theorem bytesCompare_any {l1 l2 : List (BitVec 8)} {A B : Option Addr} {n c m d : Nat} {w : World} (h1 : Bs w A n c l1) (h2 : Bs w B m d l2) :
    Calls Tryd.prog 27 #[.slice A n c, .slice B m d] w fun e w' => e = .returned (.int .i64 (cmpB l1 l2)) ∧ w' = w := by
  have hcall : (callFunc 48 #[.slice A n c, .slice B m d]).run Tryd.prog w = .ok (.value (.int .i64 (cmpB l1 l2))) w := by
    rw [run_callFunc_extern Tryd.func48 (by kernel_rfl) (by kernel_rfl) (by kernel_rfl) (e := Extern.BytealgCompare.compare) (by kernel_rfl)]
    have hrun : (Extern.BytealgCompare.compare #[.slice A n c, .slice B m d]).run Tryd.prog w = .ok (.int .i64 (cmpB l1 l2)) w := by
      change Sem.run Tryd.prog (do pure (goInt (Extern.BytealgCompare.cmp (← Extern.Bytes.bytesOf (.slice A n c)) (← Extern.Bytes.bytesOf (.slice B m d))))) w = _
      simp only [Sem.run_bind, run_bytesOf9 h1, run_bytesOf9 h2, Sem.run_pure, Result.andThen]
      rw [Lib.cmp_eq, ← cmpB_eq]
      rfl
    rw [hrun]
    rfl
  clear h1 h2
  go_enter Tryd.func27, Tryd.ntmps27
  go_wp2
  go_ret
  exact ⟨rfl, rfl⟩
/-- what attributes that are alike have in common, in two cells -/
abbrev SV := (Option Addr × Nat × Nat) × (Option Addr × Nat × Nat)
def kdV (v : SV) : Value := .slice v.1.1 v.1.2.1 v.1.2.2
def txV (v : SV) : Value := .slice v.2.1 v.2.2.1 v.2.2.2
structure SnR (w : World) (v : SV) (s : Sns) : Prop where
  kd : Rd vL w v.1.1 v.1.2.1 v.1.2.2 s.1
  hk : v.1.2.1 ≤ 1000000
  tx : Bs w v.2.1 v.2.2.1 v.2.2.2 s.2
theorem SnR.ext {w w' : World} {v : SV} {s : Sns} (h : SnR w v s) (hx : Ext w w') : SnR w' v s := ⟨h.kd.ext hx, h.hk, h.tx.ext hx⟩
theorem grow_three (w : World) (a b c : Obj) : (((w.alloc a).alloc b).drew).alloc c = grow (w.drewN 1) #[a, b, c] := by
  rw [alloc_eq_grow w a, alloc_eq_grow (grow w #[a]) b, grow_grow]
  show (grow (w.drewN 1) (#[a] ++ #[b])).alloc c = _
  rw [alloc_eq_grow, grow_grow]
  rfl
theorem ext_grow (w : World) (q : Nat) (os : Array Obj) : Ext w (grow (w.drewN q) os) := by
  refine ⟨⟨rfl, rfl, rfl, by simp [grow, World.drewN], fun k hk => ?_⟩⟩
  show (w.heap ++ os)[k]? = w.heap[k]?
  rw [Array.getElem?_append_left hk]
theorem ext_of_grow {w w' : World} {q : Nat} {os : Array Obj} (h : w' = grow (w.drewN q) os) : Ext w w' := h ▸ ext_grow w q os
set_option maxHeartbeats 4000000 in
theorem compareSenses_any {w : World} {x y : SV} {s t : Sns} (hx : SnR w x s) (hy : SnR w y t) :
    Calls Tryd.prog 70 #[.agg #[kdV x, txV x], .agg #[kdV y, txV y]] w fun e w' => e = .returned (.int .i64 (cmpS s t)) ∧ ∃ q os, w' = grow (w.drewN q) os := by
  obtain ⟨⟨A1, n1, c1⟩, A2, n2, c2⟩ := x
  obtain ⟨⟨B1, m1, d1⟩, B2, m2, d2⟩ := y
  obtain ⟨s1, s2⟩ := s
  obtain ⟨t1, t2⟩ := t
  obtain ⟨hx1, hxk, hx2⟩ := hx
  obtain ⟨hy1, hyk, hy2⟩ := hy
  have hz : or2 (cmpL s1 t1) (cmpB s2 t2) = cmpS (s1, s2) (t1, t2) := rfl
  unfold kdV txV
  simp only at *
  obtain ⟨W, hW⟩ : ∃ W, (w.alloc (.cells #[.slice A1 n1 c1, .slice A2 n2 c2] 96)).alloc (.cells #[.slice B1 m1 d1, .slice B2 m2 d2] 96) = W := ⟨_, rfl⟩
  have k1 : ∀ w', Ext W w' → w'.cell? ⟨w.heap.size, 0, none⟩ = some (.slice A1 n1 c1) := fun w' hx => cell_fwd (by rw [← hW]; simp) hx
  have k2 : ∀ w', Ext W w' → w'.cell? ⟨w.heap.size, 1, none⟩ = some (.slice A2 n2 c2) := fun w' hx => cell_fwd (by rw [← hW]; simp) hx
  have k3 : ∀ w', Ext W w' → w'.cell? ⟨w.heap.size + 1, 0, none⟩ = some (.slice B1 m1 d1) := fun w' hx => cell_fwd (by rw [← hW]; simp) hx
  have k4 : ∀ w', Ext W w' → w'.cell? ⟨w.heap.size + 1, 1, none⟩ = some (.slice B2 m2 d2) := fun w' hx => cell_fwd (by rw [← hW]; simp) hx
  have hwx : Ext w W := by rw [← hW]; exact (by (repeat (first | assumption | exact Ext.refl _ | apply Ext.drew | apply Ext.drewN | apply Ext.alloc | refine Ext.trans ?_ (by assumption))); first | done | fail)
  have HX1 := Kp.mk (hx1.ext hwx)
  have HX2 := Kp.mk (hx2.ext hwx)
  have HY1 := Kp.mk (hy1.ext hwx)
  have HY2 := Kp.mk (hy2.ext hwx)
  have HW := Kp.mk hW
  have HZ := Kp.mk hz
  clear hx1 hx2 hy1 hy2 hwx hW hz
  go_enter Tryd.func70, Tryd.ntmps70
  go_wp2_with fail
  rw [HW.out]
  refine wp_region_held_drew (S := fun w' => Ext W w') (by kernel_rfl) (Ext.refl W).drew (fun hHeld => ?_)
  refine wpAnyH_take (i := 0) (oi := ⟨some 5, _, _, _, _, _⟩) (v := ?_) rfl (by kernel_rfl) (by kernel_rfl) (by kernel_rfl) (fun _ _ _ h => h) (Or.inl ⟨by rfl, ?_⟩) (by assumption) ?_
  rotate_left
  · (intro w hSw; (try dsimp only at hSw); go_simp; try with_reducible rfl)
  try simp only [Act.put, List.setIfInBounds_toArray, List.set_cons_zero, List.set_cons_succ]
  refine wpAnyH_take (i := 1) (oi := ⟨some 6, _, _, _, _, _⟩) (v := ?_) rfl (by kernel_rfl) (by kernel_rfl) (by kernel_rfl) (fun _ _ _ h => h) (Or.inl ⟨by rfl, ?_⟩) (by assumption) ?_
  rotate_left
  · (intro w hSw; (try dsimp only at hSw); go_simp; try with_reducible rfl)
  try simp only [Act.put, List.setIfInBounds_toArray, List.set_cons_zero, List.set_cons_succ]
  refine wpAnyH_take (i := 2) (oi := ⟨some 7, _, _, _, _, _⟩) (v := ?_) rfl (by kernel_rfl) (by kernel_rfl) (by kernel_rfl) (fun _ _ _ h => h) (Or.inl ⟨by rfl, ?_⟩) (by assumption) ?_
  rotate_left
  · (intro w hSw; (try dsimp only at hSw); go_simp; try with_reducible rfl)
  try simp only [Act.put, List.setIfInBounds_toArray, List.set_cons_zero, List.set_cons_succ]
  refine wpAnyH_take (i := 3) (oi := ⟨some 8, _, _, _, _, _⟩) (v := ?_) rfl (by kernel_rfl) (by kernel_rfl) (by kernel_rfl) (fun _ _ _ h => h) (Or.inl ⟨by rfl, ?_⟩) (by assumption) ?_
  rotate_left
  · (intro w hSw; (try dsimp only at hSw); go_simp; try with_reducible rfl)
  try simp only [Act.put, List.setIfInBounds_toArray, List.set_cons_zero, List.set_cons_succ]
  refine wpAnyH_take (i := 5) (oi := ⟨some 10, _, _, _, _, _⟩) (v := ?_) rfl (by kernel_rfl) (by kernel_rfl) (by kernel_rfl) (fun _ _ _ h => h) (Or.inl ⟨by rfl, ?_⟩) (by assumption) ?_
  rotate_left
  · (intro w hSw; (try dsimp only at hSw); go_simp; try with_reducible rfl)
  try simp only [Act.put, List.setIfInBounds_toArray, List.set_cons_zero, List.set_cons_succ]
  refine wpAnyH_take (i := 6) (oi := ⟨some 11, _, _, _, _, _⟩) (v := ?_) rfl (by kernel_rfl) (by kernel_rfl) (by kernel_rfl) (fun _ _ _ h => h) (Or.inl ⟨by rfl, ?_⟩) (by assumption) ?_
  rotate_left
  · (intro w hSw; (try dsimp only at hSw); go_simp; try with_reducible rfl)
  try simp only [Act.put, List.setIfInBounds_toArray, List.set_cons_zero, List.set_cons_succ]
  refine wpAnyH_take (i := 7) (oi := ⟨some 12, _, _, _, _, _⟩) (v := ?_) rfl (by kernel_rfl) (by kernel_rfl) (by kernel_rfl) (fun _ _ _ h => h) (Or.inl ⟨by rfl, ?_⟩) (by assumption) ?_
  rotate_left
  · (intro w hSw; (try dsimp only at hSw); go_simp; try with_reducible rfl)
  try simp only [Act.put, List.setIfInBounds_toArray, List.set_cons_zero, List.set_cons_succ]
  refine wpAnyH_take (i := 8) (oi := ⟨some 13, _, _, _, _, _⟩) (v := ?_) rfl (by kernel_rfl) (by kernel_rfl) (by kernel_rfl) (fun _ _ _ h => h) (Or.inl ⟨by rfl, ?_⟩) (by assumption) ?_
  rotate_left
  · (intro w hSw; (try dsimp only at hSw); go_simp; try with_reducible rfl)
  try simp only [Act.put, List.setIfInBounds_toArray, List.set_cons_zero, List.set_cons_succ]
  refine next_one 4 (by kernel_rfl) rfl (by rfl) fun K' HK' => ?_
  go_simp
  refine (slCompare_any (HX1.out.ext (by (repeat (first | assumption | exact Ext.refl _ | apply Ext.drew | apply Ext.drewN | apply Ext.alloc | refine Ext.trans ?_ (by assumption))); first | done | fail)) (HY1.out.ext (by (repeat (first | assumption | exact Ext.refl _ | apply Ext.drew | apply Ext.drewN | apply Ext.alloc | refine Ext.trans ?_ (by assumption))); first | done | fail)) (by omega)).mono ?_
  rintro e w3 ⟨rfl, hw⟩
  subst hw
  refine held_go HK' (by (repeat (first | assumption | exact Ext.refl _ | apply Ext.drew | apply Ext.drewN | apply Ext.alloc | refine Ext.trans ?_ (by assumption))); first | done | fail) (fun hHeld => ?_)
  clear HK'
  try simp only [Act.put, List.setIfInBounds_toArray, List.set_cons_zero, List.set_cons_succ]
  refine next_one 9 (by kernel_rfl) rfl (by rfl) fun K' HK' => ?_
  go_simp
  refine (bytesCompare_any (HX2.out.ext (by (repeat (first | assumption | exact Ext.refl _ | apply Ext.drew | apply Ext.drewN | apply Ext.alloc | refine Ext.trans ?_ (by assumption))); first | done | fail)) (HY2.out.ext (by (repeat (first | assumption | exact Ext.refl _ | apply Ext.drew | apply Ext.drewN | apply Ext.alloc | refine Ext.trans ?_ (by assumption))); first | done | fail))).mono ?_
  rintro e w3 ⟨rfl, hw⟩
  subst hw
  refine held_go HK' (by (repeat (first | assumption | exact Ext.refl _ | apply Ext.drew | apply Ext.drewN | apply Ext.alloc | refine Ext.trans ?_ (by assumption))); first | done | fail) (fun hHeld => ?_)
  clear HK'
  try simp only [Act.put, List.setIfInBounds_toArray, List.set_cons_zero, List.set_cons_succ]
  refine next_one 10 (by kernel_rfl) rfl (by rfl) fun K' HK' => ?_
  go_simp
  refine held_go HK' (by (repeat (first | assumption | exact Ext.refl _ | apply Ext.drew | apply Ext.drewN | apply Ext.alloc | refine Ext.trans ?_ (by assumption))); first | done | fail) (fun hHeld => ?_)
  clear HK'
  try simp only [Act.put, List.setIfInBounds_toArray, List.set_cons_zero, List.set_cons_succ]
  refine next_one 11 (by kernel_rfl) rfl (by rfl) fun K' HK' => ?_
  go_simp
  refine (cmpOr_any (cmpL s1 t1) (cmpB s2 t2) W.heap.size _ (by simp) (by simp)).mono ?_
  rintro e w3 ⟨rfl, hw⟩
  rw [HZ.out]
  subst hw
  refine held_go HK' (by (repeat (first | assumption | exact Ext.refl _ | apply Ext.drew | apply Ext.drewN | apply Ext.alloc | refine Ext.trans ?_ (by assumption))); first | done | fail) (fun hHeld => ?_)
  clear HK'
  try simp only [Act.put, List.setIfInBounds_toArray, List.set_cons_zero, List.set_cons_succ]
  refine wpAnyH_take (i := 12) (oi := ⟨some 4, _, _, _, _, _⟩) (v := ?_) rfl (by kernel_rfl) (by kernel_rfl) (by kernel_rfl) (fun _ _ _ h => h) (Or.inl ⟨by rfl, ?_⟩) (by assumption) ?_
  rotate_left
  · (intro w hSw; (try dsimp only at hSw); go_simp; try with_reducible rfl)
  try simp only [Act.put, List.setIfInBounds_toArray, List.set_cons_zero, List.set_cons_succ]
  refine wpAnyH_done (by kernel_rfl) ?_ _
  go_wp2_with fail
  go_ret
  refine ⟨rfl, ?_⟩
  rw [← HW.out]
  exact ⟨1, _, grow_three _ _ _ _⟩
theorem sn_eq (s t : Sns) : (cmpS s t == 0) = decide (s = t) := by
  rw [Bool.eq_iff_iff, beq_iff_eq, decide_eq_true_eq, cmpS_is.zero]
set_option maxHeartbeats 2000000 in
theorem sameSense_any {w : World} {x y : SV} {s t : Sns} (hx : SnR w x s) (hy : SnR w y t) :
    Calls Tryd.prog 58 #[.agg #[kdV x, txV x], .agg #[kdV y, txV y]] w fun e w' => e = .returned (.bool (decide (s = t))) ∧ Ext w w' := by
  have HC := Kp.mk (fun (W : World) (h : Ext w W) => compareSenses_any (hx.ext h) (hy.ext h))
  have he := sn_eq s t
  have e1 : (kdV x).oneCell' = true := rfl
  have e2 : (txV x).oneCell' = true := rfl
  unfold kdV txV at *
  generalize decide (s = t) = b at *
  generalize cmpS s t = z at *
  clear hx hy
  go_enter Tryd.func58, Tryd.ntmps58
  go_wp2_with fail
  refine (HC.out _ (by (repeat (first | assumption | exact Ext.refl _ | apply Ext.drew | apply Ext.drewN | apply Ext.alloc | refine Ext.trans ?_ (by assumption))); first | done | fail)).mono ?_
  rintro e w2 ⟨rfl, q, os, hw⟩
  have hx2 := ext_of_grow hw
  clear hw
  go_wp2_with fail
  go_ret
  exact ⟨rfl, (by (repeat (first | assumption | exact Ext.refl _ | apply Ext.drew | apply Ext.drewN | apply Ext.alloc | refine Ext.trans ?_ (by assumption))); first | done | fail)⟩
end Go.Proofs.YthookcnkmlmgcaaDoor
