/-
  The laws' head: up, light, public, cut; the walk of the law RsaChecks.
  What the rows' readings give the walks: structs of numbers (keys).
-/
import Derived.Test.YticggkllfojgkaaDoorM20
import Derived.Test.YticggkllfojgkaaDoorM10
import Derived.Lib.SmallJoins
namespace Go.Proofs.YticggkllfojgkaaDoor
open Go Go.RowKit
set_option maxRecDepth 4000

theorem Ext.stored {w0 w w' : World} (h : Ext w0 w) (h' : Ext w w') {g : Nat} (hg : w0.heap.size ≤ g) (cs : Array Value) : Ext w0 (w'.setRow g cs) := (h.trans h').setRow hg cs
set_option maxHeartbeats 4000000 in
theorem up6_any (w : World) : Calls Tryd.prog 7 #[] w fun e w' => e = .returned (.bool true) ∧ Ext w w' := by
  have ee := code_eq 1 1
  have C := Kp.mk (Check_bad (w := (w.alloc (.cells #[.int .u32 15] ut)).alloc (.cells #[.int .u32 3] ut)) ((Nv.lit w 15 15 rfl (by decide) _ rfl).ext (by (repeat (first | assumption | exact Ext.refl _ | apply Ext.drew | apply Ext.drewN | apply Ext.alloc | refine Ext.trans ?_ (by assumption))); first | done | fail)) (Nv.lit (w.alloc (.cells #[.int .u32 15] ut)) 3 3 rfl (by decide) (w.heap.size + 1) (by simp)) (fun h => absurd h.1 (by have := (nb_iff 15 1).2 (by decide); omega)))
  go_enter Tryd.func7, Tryd.ntmps7
  go_wp2_with fail
  refine C.out.mono ?_
  rintro e w1 ⟨rfl, x⟩
  have x1 := Ext.trans (show Ext w _ from (by (repeat (first | assumption | exact Ext.refl _ | apply Ext.drew | apply Ext.drewN | apply Ext.alloc | refine Ext.trans ?_ (by assumption))); first | done | fail)) x
  clear x
  have C2 := Kp.mk (Pair_facp (w := ((w1.alloc (.cells #[.int .u32 2] ut)).alloc (.cells #[.int .u32 7] ut)).alloc (.cells #[.int .u32 3] ut)) ((Nv.lit w1 2 2 rfl (by decide) _ rfl).ext (by (repeat (first | assumption | exact Ext.refl _ | apply Ext.drew | apply Ext.drewN | apply Ext.alloc | refine Ext.trans ?_ (by assumption))); first | done | fail)) ((Nv.lit (w1.alloc (.cells #[.int .u32 2] ut)) 7 7 rfl (by decide) (w1.heap.size + 1) (by simp)).ext (by (repeat (first | assumption | exact Ext.refl _ | apply Ext.drew | apply Ext.drewN | apply Ext.alloc | refine Ext.trans ?_ (by assumption))); first | done | fail))
    (Nv.lit ((w1.alloc (.cells #[.int .u32 2] ut)).alloc (.cells #[.int .u32 7] ut)) 3 3 rfl (by decide) (w1.heap.size + 1 + 1) (by simp)) (short_of (k := 1) (by decide) (by decide)) (short_of (k := 1) (by decide) (by decide)) (short_of (k := 1) (by decide) (by decide)) (fun h => absurd h.lo (by decide)))
  go_wp2_with fail
  refine C2.out.mono ?_
  rintro e w2 ⟨rfl, x⟩
  have x2 := Ext.trans (show Ext w1 _ from (by (repeat (first | assumption | exact Ext.refl _ | apply Ext.drew | apply Ext.drewN | apply Ext.alloc | refine Ext.trans ?_ (by assumption))); first | done | fail)) x
  clear x C C2
  have HZ := Kp.mk (Blk.new w2 30 #[.slice none 0 0, .slice none 0 0, .slice none 0 0])
  have HX := Kp.mk (Ext.setRow (show Ext w (w2.alloc (.cells #[.slice none 0 0, .slice none 0 0, .slice none 0 0] 30)) from (by (repeat (first | assumption | exact Ext.refl _ | apply Ext.drew | apply Ext.drewN | apply Ext.alloc | refine Ext.trans ?_ (by assumption))); first | done | fail)) (show w.heap.size ≤ w2.heap.size from (x1.trans x2).size) #[.slice none 0 0, .slice none 0 0, .slice none 0 0])
  clear x1 x2
  go_wp2_with (first | ((with_reducible refine at_store 2 13 ?_); refine wpList_store_row rfl 30 _ _ rfl w2.heap.size #[.slice none 0 0, .slice none 0 0, .slice none 0 0] rfl rfl 30 _ HZ.out.h szS rfl (one_three _ _ _ _ _ _ _ _ _) ?_) | fail)
  go_ret
  exact ⟨rfl, HX.out⟩
section
variable {A B D : Option Addr} {n c m d k f vp vq ve : Nat} {w : World}
theorem light_cases6 (n m k : Nat) : (n ≤ 70 ∧ m ≤ 70 ∧ k ≤ 70) ∨ (¬ (n ≤ 70 ∧ m ≤ 70 ∧ k ≤ 70) ∧ ¬ n ≤ 70) ∨ (¬ (n ≤ 70 ∧ m ≤ 70 ∧ k ≤ 70) ∧ n ≤ 70 ∧ ¬ m ≤ 70) ∨ (¬ (n ≤ 70 ∧ m ≤ 70 ∧ k ≤ 70) ∧ n ≤ 70 ∧ m ≤ 70 ∧ ¬ k ≤ 70) := by omega
set_option maxHeartbeats 1000000 in
theorem light6_any (b : Bool) (hb : b = true ↔ n ≤ 70 ∧ m ≤ 70 ∧ k ≤ 70) : Calls Tryd.prog 8 #[.agg #[.slice A n c, .slice B m d, .slice D k f]] w fun e w' => e = .returned (.bool b) ∧ Ext w w' := by
  rcases light_cases6 n m k with ⟨h1, h2, h3⟩ | ⟨h, h1⟩ | ⟨h, h1, h2⟩ | ⟨h, h1, h2, h3⟩
  · obtain rfl : b = true := hb.2 ⟨h1, h2, h3⟩
    have d1 : (n : Int) ≤ 70 := by omega
    have d2 : (m : Int) ≤ 70 := by omega
    have d3 : (k : Int) ≤ 70 := by omega
    clear hb 
    go_enter Tryd.func8, Tryd.ntmps8
    go_wp2_with fail
    go_ret
    exact ⟨rfl, (by (repeat (first | assumption | exact Ext.refl _ | apply Ext.drew | apply Ext.drewN | apply Ext.alloc | refine Ext.trans ?_ (by assumption))); first | done | fail)⟩
  · obtain rfl : b = false := bool_no hb h
    have d1 : decide ((n : Int) ≤ 70) = false := decide_eq_false (by omega)
    have e1 : decide (n ≤ 70) = false := decide_eq_false (by omega)
    clear hb h h1
    go_enter Tryd.func8, Tryd.ntmps8
    go_wp2_with fail
    go_ret
    exact ⟨rfl, (by (repeat (first | assumption | exact Ext.refl _ | apply Ext.drew | apply Ext.drewN | apply Ext.alloc | refine Ext.trans ?_ (by assumption))); first | done | fail)⟩
  · obtain rfl : b = false := bool_no hb h
    have d1 : (n : Int) ≤ 70 := by omega
    have d2 : decide ((m : Int) ≤ 70) = false := decide_eq_false (by omega)
    have e2 : decide (m ≤ 70) = false := decide_eq_false (by omega)
    clear hb h h2
    go_enter Tryd.func8, Tryd.ntmps8
    go_wp2_with fail
    go_ret
    exact ⟨rfl, (by (repeat (first | assumption | exact Ext.refl _ | apply Ext.drew | apply Ext.drewN | apply Ext.alloc | refine Ext.trans ?_ (by assumption))); first | done | fail)⟩
  · obtain rfl : b = false := bool_no hb h
    have d1 : (n : Int) ≤ 70 := by omega
    have d2 : (m : Int) ≤ 70 := by omega
    have d3 : decide ((k : Int) ≤ 70) = false := decide_eq_false (by omega)
    have e3 : decide (k ≤ 70) = false := decide_eq_false (by omega)
    clear hb h h3
    go_enter Tryd.func8, Tryd.ntmps8
    go_wp2_with fail
    go_ret
    exact ⟨rfl, (by (repeat (first | assumption | exact Ext.refl _ | apply Ext.drew | apply Ext.drewN | apply Ext.alloc | refine Ext.trans ?_ (by assumption))); first | done | fail)⟩
theorem public6_any : Calls Tryd.prog 20 #[.agg #[.slice A n c, .slice B m d, .slice D k f]] w fun e w' => e = .returned (.agg #[.slice A n c, .slice B m d]) ∧ Ext w w' := by
  have HZ := Kp.mk (Blk.new (w.alloc (.cells #[.slice A n c, .slice B m d, .slice D k f] 30)) 25 #[.slice none 0 0, .slice none 0 0])
  have HX := Kp.mk (Ext.setRow (show Ext w ((w.alloc (.cells #[.slice A n c, .slice B m d, .slice D k f] 30)).alloc (.cells #[.slice none 0 0, .slice none 0 0] 25)) from (by (repeat (first | assumption | exact Ext.refl _ | apply Ext.drew | apply Ext.drewN | apply Ext.alloc | refine Ext.trans ?_ (by assumption))); first | done | fail)) (show w.heap.size ≤ (w.alloc (.cells #[.slice A n c, .slice B m d, .slice D k f] 30)).heap.size by simp) #[.slice A n c, .slice B m d])
  have hsz : (w.alloc (.cells #[.slice A n c, .slice B m d, .slice D k f] 30)).heap.size = w.heap.size + 1 := by simp
  rw [hsz] at HZ HX
  go_enter Tryd.func20, Tryd.ntmps20
  go_wp2_with (first | ((with_reducible refine at_store 2 7 ?_); refine wpList_store_row rfl 25 _ _ rfl (w.heap.size + 1) #[.slice A n c, .slice B m d] rfl rfl 25 _ HZ.out.h szP2 rfl (one_two _ _ _ _ _ _) ?_) | fail)
  refine bodyPost_ret (v := .agg #[.slice A n c, .slice B m d]) ?_ rfl ⟨rfl, HX.out⟩
  exact results_cell_row rfl _ _ (w.heap.size + 1) 25 _ (0, 0) _ rfl (HZ.out.row _).h Tryd.underlying25 rfl szP2
theorem cut6_any {l : List (BitVec 8)} (h : Bs w A n c l) (z : Int) (hz : z = 300) : Calls Tryd.prog 17 #[.slice A n c, .int .i64 z] w fun e w' => e = .returned (.slice A (min n 300) c) ∧ Bs w' A (min n 300) c (l.take (min n 300)) ∧ w' = w := by
  subst hz
  have hcap := h.cap
  have HT := Kp.mk (h.take (min n 300) (Nat.min_le_left _ _))
  by_cases hn : n ≤ 300
  · have e : min n 300 = n := by omega
    have d1 : decide ((300 : Int) < (n : Int)) = false := decide_eq_false (by omega)
    have d2 : decide (300 < n) = false := decide_eq_false (by omega)
    rw [e] at HT ⊢
    clear h hn e
    go_enter Tryd.func17, Tryd.ntmps17
    go_wp2_with fail
    go_ret
    exact ⟨rfl, HT.out, rfl⟩
  · have e : min n 300 = 300 := by omega
    have d1 : (300 : Int) < (n : Int) := by omega
    have hs := fun W => run_upto (P := Tryd.prog) A n c 26 5 Tryd.underlying26 szB 300 300 rfl (by omega) W
    rw [e] at HT ⊢
    clear h hn e
    go_enter Tryd.func17, Tryd.ntmps17
    go_wp2_with fail
    go_ret
    exact ⟨rfl, HT.out, rfl⟩
end
end Go.Proofs.YticggkllfojgkaaDoor
namespace Go.Proofs.YticggkllfojgkaaDoor
open Go Go.ChangeShapes Go.WideShapes Go.ChangeAt Go.RowKit Go.Joins Go.Deep Go.WideElems Go.Maps
set_option maxRecDepth 4000

section
variable {H : Type} {enc : TypeId × Value → H} {P : Program} {w : World} {held : Bool}
/-- a field that is a slice of limbs -/
theorem open_nat_at {t e fuel : Nat} {v : Value} {x : DataW H × List MemPlace} (ht : P.underlying t = some (.slice e)) (he : P.underlying e = some (.int .u32)) (hce : P.cellsOf e = 1)
    (hf : DataW.trod enc P w 0 (fun _ => true) held fuel t [v] = some x) : ∃ A n c l, v = .slice A n c ∧ Rd vL w A n c l ∧ Dg BB l ∧ c ≤ maxLen := by
  rcases open_ints ht he hce hf with ⟨hcs, _⟩ | ⟨a, len, cap, zs, hcs, _, hl, hm, hz, _, hcell, hwz⟩
  · obtain rfl : v = .slice none 0 0 := by simpa using hcs
    exact ⟨none, 0, 0, [], rfl, Rd.nil _, Dg.nil _, Nat.zero_le _⟩
  · obtain rfl : v = .slice (some a) len cap := by simpa using hcs
    simp only [if_true] at hz
    refine ⟨some a, len, cap, (zs.map Int.toNat).take len, rfl, ⟨by rw [List.length_take, List.length_map]; omega, hl, (fun e => by cases e), fun hn => ?_⟩, fun x hx => ?_, hm⟩
    · obtain ⟨b, off, rfl, hc⟩ := ints_at hcell (by omega)
      refine ⟨b, off, rfl, fun j x hj => ?_⟩
      have hjn : j < len := by have := (List.getElem?_eq_some_iff.1 hj).1; rw [List.length_take] at this; omega
      rw [hc j (by omega)]
      rw [List.getElem?_take, if_pos hjn, List.getElem?_map, List.getElem?_eq_getElem (by omega)] at hj
      have hb := bounds_u32 (hwz zs[j] (List.getElem_mem (by omega)))
      cases hj
      simp only [List.getD_eq_getElem?_getD, List.getElem?_eq_getElem (show j < zs.length by omega), Option.getD_some, vL]
      congr 2
      omega
    · obtain ⟨y, hy, rfl⟩ := List.mem_map.1 (List.mem_of_mem_take hx)
      have hb := bounds_u32 (hwz y hy)
      show y.toNat < 4294967296
      omega
/-- a number of a key -/
structure Nk (w : World) (A : Option Addr) (n c : Nat) (l : List Nat) : Prop where
  r : Rd vL w A n c l
  d : Dg BB l
theorem Nk.ext {w w' : World} {A : Option Addr} {n c : Nat} {l : List Nat} (h : Nk w A n c l) (hx : Ext w w') : Nk w' A n c l := ⟨h.r.ext hx, h.d⟩
theorem open_public {t e base' : Nat} {f0 f1 : Field} {v : Value} {d : DataW H} {p : List MemPlace} (hs : P.underlying t = some (.struct #[f0, f1])) (hone : oneCellFields P #[f0, f1] = true) (hC : P.cellsOf t = 2)
    (h0 : P.underlying f0.type = some (.slice e)) (h1 : P.underlying f1.type = some (.slice e)) (he : P.underlying e = some (.int .u32)) (hce : P.cellsOf e = 1)
    (hv : Value.okWide P w .any base' t v) (h : DataW.Trod enc P w 0 (fun _ => true) held t v d p) :
    ∃ A0 n0 c0 l0 A1 n1 c1 l1, v = .agg #[.slice A0 n0 c0, .slice A1 n1 c1] ∧ Nk w A0 n0 c0 l0 ∧ Nk w A1 n1 c1 l1 := by
  obtain ⟨v0, v1, y0, y1, n, rfl, _, _, r0, r1⟩ := open_agg2 hs hone hC hv h
  obtain ⟨A0, n0, c0, l0, rfl, a0, b0, _⟩ := open_nat_at h0 he hce r0
  obtain ⟨A1, n1, c1, l1, rfl, a1, b1, _⟩ := open_nat_at h1 he hce r1
  exact ⟨A0, n0, c0, l0, A1, n1, c1, l1, rfl, ⟨a0, b0⟩, ⟨a1, b1⟩⟩
theorem open_secret {t e base' : Nat} {f0 f1 f2 : Field} {v : Value} {d : DataW H} {p : List MemPlace} (hs : P.underlying t = some (.struct #[f0, f1, f2])) (hone : oneCellFields P #[f0, f1, f2] = true) (hC : P.cellsOf t = 3)
    (h0 : P.underlying f0.type = some (.slice e)) (h1 : P.underlying f1.type = some (.slice e)) (h2 : P.underlying f2.type = some (.slice e)) (he : P.underlying e = some (.int .u32)) (hce : P.cellsOf e = 1)
    (hv : Value.okWide P w .any base' t v) (h : DataW.Trod enc P w 0 (fun _ => true) held t v d p) :
    ∃ A0 n0 c0 l0 A1 n1 c1 l1 A2 n2 c2 l2, v = .agg #[.slice A0 n0 c0, .slice A1 n1 c1, .slice A2 n2 c2] ∧ Nk w A0 n0 c0 l0 ∧ Nk w A1 n1 c1 l1 ∧ Nk w A2 n2 c2 l2 := by
  obtain ⟨v0, v1, v2, y0, y1, y2, n, rfl, _, _, r0, r1, r2⟩ := open_agg3 hs hone hC hv h
  obtain ⟨A0, n0, c0, l0, rfl, a0, b0, _⟩ := open_nat_at h0 he hce r0
  obtain ⟨A1, n1, c1, l1, rfl, a1, b1, _⟩ := open_nat_at h1 he hce r1
  obtain ⟨A2, n2, c2, l2, rfl, a2, b2, _⟩ := open_nat_at h2 he hce r2
  exact ⟨A0, n0, c0, l0, A1, n1, c1, l1, A2, n2, c2, l2, rfl, ⟨a0, b0⟩, ⟨a1, b1⟩, ⟨a2, b2⟩⟩
end
end Go.Proofs.YticggkllfojgkaaDoor
