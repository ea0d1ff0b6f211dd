/-
  The walks of slices.Grow, slices.Concat of two slices, bytes.Clone, Fill.
-/
import Derived.Test.YtjjoghdlbnlicaaDoorCa
import Derived.Lib.AppendZerosOnto
import Derived.Lib.SliceRun
namespace Go.Proofs.YtjjoghdlbnlicaaDoor
open Go Go.RowKit

set_option maxHeartbeats 1000000 in
theorem Grow_any (n : Nat) (h0 : 0 < n) (hn : n ≤ 140737488351232) (w : World) :
    Calls Tryd.prog 41 #[.slice none 0 0, .int .i64 (n : Int)] w fun e w' => ∃ A c, e = .returned (.slice A 0 c) ∧ Own w' w.heap.size (.slice A 0 c) 0 [] ∧ Ext w w' := by
  obtain ⟨i, hi, hz, hs, hb⟩ := info_parts inB
  have hrz : ∀ ty, (Builtin.append_ #[22, 3] ty #[.slice none 0 0, .int .i64 (n : Int)]).run Tryd.prog w =
      .ok (.slice (some ⟨w.heap.size, 0, none⟩) (0 + n) (grownCap w (0 + n) 0 5)) (w.drew.alloc (.cells (([] : List Value).toArray ++ Builtin.zeroCells (Value.int .u8 0).cells n ++ Builtin.zeroCells (Value.int .u8 0).cells (grownCap w (0 + n) 0 5 - (0 + n))) 5)) := fun ty =>
    Lib.run_append_grow_zeros w 22 3 ty 5 i (.int .u8 0) .i64 .i64 Tryd.underlying22 Tryd.underlying3 hi hz none 0 0 [] (run_firstCells_none w.drew i.size 0 0 0) n h0 (by omega) (by omega) (by omega) (by rw [hb]; omega) (growslice_fits (by omega) (by rw [hb]; omega))
  have hG1 := grownCap_ge w (0 + n) 0 5
  have hG2 := grownCap_le_maxLen w (0 + n) 0 5 (by unfold maxLen; omega)
  obtain ⟨G, hG⟩ : ∃ G, G = grownCap w (0 + n) 0 5 := ⟨_, rfl⟩
  rw [← hG] at hrz hG1 hG2
  obtain ⟨cs, hcs⟩ : ∃ cs, cs = (([] : List Value).toArray ++ Builtin.zeroCells (Value.int .u8 0).cells n ++ Builtin.zeroCells (Value.int .u8 0).cells (G - (0 + n))) := ⟨_, rfl⟩
  rw [← hcs] at hrz
  have hsz : cs.size = G := by
    rw [hcs, Array.size_append, Array.size_append, size_zeroCells, size_zeroCells]
    show 0 + n * 1 + (G - (0 + n)) * 1 = G
    omega
  rw [Nat.zero_add] at hrz
  have ho : Own (w.drew.alloc (.cells cs 5)) w.heap.size (.slice (some ⟨w.heap.size, 0, none⟩) 0 G) 0 [] :=
    ⟨⟨rfl, .inr ⟨w.heap.size, G, cs, rfl, Nat.le_refl _, heap_alloc_new w.drew _, Nat.zero_le _, hG2, by rw [hsz, Nat.mul_one], rfl⟩⟩⟩
  have b1 : ¬ (n : Int) < 0 := by omega
  have b2 : 0 < (n : Int) := by omega
  have hcut := fun W => run_upto (P := Tryd.prog) (some ⟨w.heap.size, 0, none⟩) n G 22 5 Tryd.underlying22 szB 0 0 rfl (Nat.zero_le _) W
  clear hcs hG hG1 hG2 hsz
  have HO := Kp.mk ho
  clear ho
  go_enter Tryd.func41, Tryd.ntmps41
  go_wp2_with (at_builtin; refine Lib.wpList_append_run _ rfl _ _ _ _ rfl _ _ rfl rfl _ _ (hrz _) ?_)
  go_ret
  exact ⟨_, _, rfl, HO.out, (by (repeat (first | assumption | exact Ext.refl _ | apply Ext.drew | apply Ext.drewN | apply Ext.alloc | refine Ext.trans ?_ (by assumption))); first | done | fail)⟩
/-- of two parts: how many bytes the first j hold, and which -/
def s2 (n m : Nat) (j : Nat) : Nat := if j = 0 then 0 else if j = 1 then n else n + m
def l2 (x y : List (BitVec 8)) (j : Nat) : List (BitVec 8) := if j = 0 then [] else if j = 1 then x else x ++ y
set_option maxHeartbeats 2000000 in
theorem Concat_any {x y : List (BitVec 8)} {A1 A2 : Option Addr} {n m c1 c2 g : Nat} {w : World} (h1 : Bs w A1 n c1 x) (h2 : Bs w A2 m c2 y) (hB : Blk w g 22 #[.slice A1 n c1, .slice A2 m c2]) (h0 : 0 < n + m) (hn : n + m ≤ 140737488351232) :
    Calls Tryd.prog 28 #[.slice (some ⟨g, 0, none⟩) 2 2] w (Fresh w (n + m) (x ++ y)) := by
  go_enter Tryd.func28, Tryd.ntmps28
  have H1 := Kp.mk h1
  have H2 := Kp.mk h2
  have HB := Kp.mk hB
  clear h1 h2 hB
  go_wp2_with fail
  go_loopw [3, 11] (fun sv iv wr => ∃ j : Nat, j ≤ 2 ∧ iv = .int .i64 j ∧ sv = .int .i64 (s2 n m j) ∧ wr = w) (fun _ i _ => 2 - (intOf i).toNat)
  case atStart => exact ⟨0, by omega, rfl, rfl, rfl⟩
  case round =>
    obtain ⟨j, hj, rfl, rfl, rfl⟩ := hrel
    have c0 := HB.out.h.cell 0
    have c1' := HB.out.h.cell 1
    have hj3 : j = 0 ∨ j = 1 ∨ j = 2 := by omega
    rcases hj3 with rfl | rfl | rfl
    · have e : s2 n m 0 = 0 := rfl
      rw [e]
      go_wp2_with fail
      go_roundw
      case rel => exact ⟨1, by omega, rfl, by simp [s2], trivial⟩
      case measure => simp [intOf]
    · have e : s2 n m 1 = n := rfl
      rw [e]
      go_wp2_with fail
      go_roundw
      case rel => exact ⟨2, by omega, rfl, by simp [s2], trivial⟩
      case measure => simp [intOf]
    · have e : s2 n m 2 = n + m := rfl
      rw [e]
      have hz : ((n + m : Nat) : Int) = (n : Int) + (m : Int) := by omega
      go_wp2_with (go_at_call 41; refine (Grow_any (n + m) h0 hn _).mono ?_; rintro e w1 ⟨A3, c3, rfl, ho3, hx3⟩)
      clear c0 c1' e hz hj
      obtain ⟨wo, rfl⟩ : ∃ wo : World, wo = wr := ⟨_, rfl⟩
      go_loopw [6, 27] (fun nv iv wq => ∃ j : Nat, j ≤ 2 ∧ iv = .int .i64 j ∧ (∃ A c, nv = .slice A (s2 n m j) c) ∧ Own wq wo.heap.size nv (s2 n m j) (l2 x y j) ∧ Ext wo wq) (fun _ i _ => 2 - (intOf i).toNat)
      case atStart => exact ⟨0, by omega, rfl, ⟨_, _, rfl⟩, ho3, hx3⟩
      case round =>
        clear ho3 hx3
        obtain ⟨j, hj, rfl, ⟨A4, c4, rfl⟩, ho4, hx4⟩ := hrel
        have c0 := (HB.out.ext hx4).h.cell 0
        have c1' := (HB.out.ext hx4).h.cell 1
        have HS := Kp.mk hx4.size
        have hj3 : j = 0 ∨ j = 1 ∨ j = 2 := by omega
        rcases hj3 with rfl | rfl | rfl
        · go_wp2_with (first | (at_builtin; refine wpList_append_bs rfl (.tmp 31) (.tmp 32) rfl wo.heap.size _ 0 [] rfl ho4 A1 n c1 x rfl (H1.out.ext hx4) (by omega) n (by omega) x rfl wo hx4 (Nat.le_refl _) HS.out ?_; intro A5 c5 w5 ho5 hx5 _) | fail)
          go_roundw
          case rel => exact ⟨1, by omega, rfl, ⟨_, _, rfl⟩, ho5, hx5⟩
          case measure => simp [intOf]
        · go_wp2_with (first | (at_builtin; refine wpList_append_bs rfl (.tmp 31) (.tmp 32) rfl wo.heap.size _ n x rfl ho4 A2 m c2 y rfl (H2.out.ext hx4) (by omega) (n + m) rfl (x ++ y) rfl wo hx4 (Nat.le_refl _) HS.out ?_; intro A5 c5 w5 ho5 hx5 _) | fail)
          go_roundw
          case rel => exact ⟨2, by omega, rfl, ⟨_, _, rfl⟩, ho5, hx5⟩
          case measure => simp [intOf]
        · have ho5 : Own wr wo.heap.size (.slice A4 (n + m) c4) (n + m) (x ++ y) := ho4
          have hx5 := hx4
          have e : s2 n m 2 = n + m := rfl
          rw [e]
          clear ho4 hx4
          go_wp2_with fail
          go_ret
          exact ⟨_, _, rfl, ho5.bs, ho5, hx5⟩
set_option maxHeartbeats 1000000 in
theorem Clone_any {b : List (BitVec 8)} {A : Option Addr} {n c : Nat} {w : World} (h : Bs w A n c b) (hn : n ≤ 140737488351232) :
    Calls Tryd.prog 30 #[.slice A n c] w (Fresh w n b) := by
  have hnil := fun (w : World) (a : Option Addr) (n c n' c' : Nat) => Lib.run_eql_slice_nil (P := Tryd.prog) w 22 5 a n c n' c' Tryd.underlying22
  have ho := Own.new w w.heap.size 0 [] rfl (Nat.le_refl _) (Nat.zero_le _)
  have hx : Ext w (w.alloc (.cells (bv []) 5)) := (by (repeat (first | assumption | exact Ext.refl _ | apply Ext.drew | apply Ext.drewN | apply Ext.alloc | refine Ext.trans ?_ (by assumption))); first | done | fail)
  have hb := h.ext hx
  have HN := Kp.mk h
  clear h
  cases A with
  | none =>
    obtain ⟨rfl, rfl⟩ := HN.out.s.2.2.1 rfl
    obtain rfl : b = [] := List.eq_nil_of_length_eq_zero HN.out.len
    go_enter Tryd.func30, Tryd.ntmps30
    go_wp2
    go_ret
    exact ⟨_, _, rfl, Bs.nil _, Own.nil _ _, Ext.refl _⟩
  | some a =>
    go_enter Tryd.func30, Tryd.ntmps30
    go_wp2_with (first | (at_builtin; refine wpList_append_bs rfl (.tmp 5) (.tmp 6) rfl w.heap.size _ 0 [] rfl ho (some a) n c b rfl hb (by omega) n (by omega) b rfl w hx (Nat.le_refl _) hx.size ?_; intro A5 c5 w5 ho5 hx5 _) | fail)
    go_ret
    exact ⟨_, _, rfl, ho5.bs, ho5, hx5⟩
set_option maxHeartbeats 2000000 in
theorem Fill_any {b : List (BitVec 8)} {A : Option Addr} {n c : Nat} {w : World} (h : Bs w A n c b) (hn : n ≤ 140737488350000) :
    Calls Tryd.prog 16 #[.slice A n c] w (Fresh w (n + fn n) (fillL b)) := by
  have hz : (16 : Int) - (n : Int) % 16 = ((fn n : Nat) : Int) := by unfold fn; omega
  have hu : (16 : Int) - (n : Int) % 16 = ub (BitVec.ofNat 8 (fn n)) := by rw [ub_ofNat, hz]; have := fn_hi n; omega
  have h1 := fn_lo n
  have h2 := fn_hi n
  have hb1 : Bs (w.alloc (.cells #[.int .u8 (16 - (n : Int) % 16)] 5)) (some ⟨w.heap.size, 0, none⟩) 1 1 [BitVec.ofNat 8 (fn n)] := by rw [hu]; exact one_bs w _
  have hx1 : Ext w (w.alloc (.cells #[.int .u8 (16 - (n : Int) % 16)] 5)) := (by (repeat (first | assumption | exact Ext.refl _ | apply Ext.drew | apply Ext.drewN | apply Ext.alloc | refine Ext.trans ?_ (by assumption))); first | done | fail)
  have he : fillL b = b ++ List.replicate (fn n) (BitVec.ofNat 8 (fn n)) := by unfold fillL; rw [h.len]
  rw [he]
  have HU := Kp.mk hu
  have HZ := Kp.mk hz
  clear hu hz he
  go_enter Tryd.func16, Tryd.ntmps16
  go_wp2_with (first | (go_at_call 29; refine (Repeat_at (fn n) (16 - (n : Int) % 16) HZ.out h1 (by omega) hb1).mono ?_; rintro e w2 ⟨A2, c2, rfl, hs2, hx2⟩) | (go_at_call 28; refine (Concat_any (g := w2.heap.size) (h.ext (by (repeat (first | assumption | exact Ext.refl _ | apply Ext.drew | apply Ext.drewN | apply Ext.alloc | refine Ext.trans ?_ (by assumption))); first | done | fail)) (hs2.ext (by (repeat (first | assumption | exact Ext.refl _ | apply Ext.drew | apply Ext.drewN | apply Ext.alloc | refine Ext.trans ?_ (by assumption))); first | done | fail)) (Blk.new _ _ _) (by omega) (by omega)).mono ?_; rintro e w3 ⟨A3, c3, rfl, hs3, ho3, hx3⟩) | fail)
  go_ret
  exact fresh_mk hs3 ho3 (by (repeat (first | assumption | exact Ext.refl _ | apply Ext.drew | apply Ext.drewN | apply Ext.alloc | refine Ext.trans ?_ (by assumption))); first | done | fail) hx3
end Go.Proofs.YtjjoghdlbnlicaaDoor
