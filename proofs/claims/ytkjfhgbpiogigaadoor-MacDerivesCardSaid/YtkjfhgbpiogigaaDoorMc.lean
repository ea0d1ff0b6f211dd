/-
  The walks of mac.Derive, mac.Based, mac.Same.
-/
import Derived.Test.YtkjfhgbpiogigaaDoorMb
namespace Go.Proofs.YtkjfhgbpiogigaaDoor
open Go Go.RowKit
attribute [local go_sem ↓] loadP_eq

/-- a code as an error -/
abbrev err (n : Int) : Value := .iface 41 (.int .i64 n)
set_option maxHeartbeats 1000000 in
theorem Derive_arg {A B : Option Addr} {n c m d : Nat} (r z : Int) (w : World) (h : r < 1 ∨ z < 0) :
    Calls Tryd.prog 35 #[.slice A n c, .slice B m d, .int .i64 r, .int .i64 z] w fun e w' => e = .returned (.tuple #[.slice none 0 0, err 1]) ∧ w = w' := by
  by_cases h1 : r < 1
  · go_enter Tryd.func35, Tryd.ntmps35
    go_wp2
    go_ret2
    exact ⟨rfl, rfl⟩
  · have h2 : z < 0 := by omega
    clear h
    go_enter Tryd.func35, Tryd.ntmps35
    go_wp2
    go_ret2
    exact ⟨rfl, rfl⟩
set_option maxHeartbeats 1000000 in
theorem Derive_long {A B : Option Addr} {n c m d : Nat} (r z : Int) (w : World) (h0 : 1 ≤ r) (h1 : 0 ≤ z) (h : 10000 < r ∨ 256 < z) :
    Calls Tryd.prog 35 #[.slice A n c, .slice B m d, .int .i64 r, .int .i64 z] w fun e w' => e = .returned (.tuple #[.slice none 0 0, err 4]) ∧ w = w' := by
  by_cases h2 : 10000 < r
  · go_enter Tryd.func35, Tryd.ntmps35
    go_wp2
    go_ret2
    exact ⟨rfl, rfl⟩
  · have h3 : 256 < z := by omega
    clear h
    go_enter Tryd.func35, Tryd.ntmps35
    go_wp2
    go_ret2
    exact ⟨rfl, rfl⟩
set_option maxHeartbeats 1000000 in
theorem Based_arg {A B : Option Addr} {n c m d : Nat} (r : Int) (w : World) (h : r < 1) :
    Calls Tryd.prog 37 #[.slice A n c, .slice B m d, .int .i64 r] w fun e w' => e = .returned (.tuple #[.slice none 0 0, err 1]) ∧ w = w' := by
  go_enter Tryd.func37, Tryd.ntmps37
  go_wp2
  go_ret2
  exact ⟨rfl, rfl⟩
set_option maxHeartbeats 1000000 in
theorem Based_long {A B : Option Addr} {n c m d : Nat} (r : Int) (w : World) (h : 10000 < r) :
    Calls Tryd.prog 37 #[.slice A n c, .slice B m d, .int .i64 r] w fun e w' => e = .returned (.tuple #[.slice none 0 0, err 4]) ∧ w = w' := by
  have h0 : ¬ r < 1 := by omega
  go_enter Tryd.func37, Tryd.ntmps37
  go_wp2
  go_ret2
  exact ⟨rfl, rfl⟩
set_option maxHeartbeats 1000000 in
theorem Same_any {l1 l2 : List (BitVec 8)} {A B : Option Addr} {n c m d : Nat} {w : World} (h1 : Bs w A n c l1) (h2 : Bs w B m d l2) :
    Calls Tryd.prog 39 #[.slice A n c, .slice B m d] w fun e w' => e = .returned (.bool ((strOf l1).toList == (strOf l2).toList)) ∧ w = w' := by
  have k1 := h1.str (Ext.refl w)
  have k2 := h2.str (Ext.refl w)
  clear h1 h2
  go_enter Tryd.func39, Tryd.ntmps39
  go_wp2
  go_ret
  exact ⟨rfl, rfl⟩

theorem szP' (k : List (BitVec 8)) : (Tryd.prog.info? 76).map (·.size) = some (bv (padX (kx k) 54 ++ padX (kx k) 92)).size := szP _ (by rw [List.length_append, padX_len, padX_len])
set_option maxHeartbeats 4000000 in
theorem Derive_any {k s : List (BitVec 8)} {A B : Option Addr} {n c m d : Nat} {w : World} (r z : Nat) (hk : Bs w A n c k) (hs : Bs w B m d s) (hw : Lay w) (hn : n ≤ 4294967000) (hm : m ≤ 4294967000) (hr : 1 ≤ r) (hr2 : r ≤ 10000) (hz : z ≤ 256) :
    Calls Tryd.prog 35 #[.slice A n c, .slice B m d, .int .i64 (r : Int), .int .i64 (z : Int)] w (FreshE w z (dkL k s r z)) := by
  go_enter Tryd.func35, Tryd.ntmps35
  go_wp2_with (first | (go_at_call 51; refine (padsOf_any hk hw (by omega)).mono ?_; rintro e w1 ⟨rfl, hx1⟩) | (refine wpList_store_row rfl 76 _ _ rfl w1.heap.size (bv (padX (kx k) 54 ++ padX (kx k) 92)) rfl rfl 76 (bv (zb 128)) (Has.new _ _ _ _ rfl) (szP' k) (by rw [bv_size, bv_size, List.length_append, padX_len, padX_len]; rfl) (bv_one _) ?_) | fail)
  have hxw : Ext w ((w1.alloc (.cells Tryd.zeroCells76 76)).setRow w1.heap.size (bv (padX (kx k) 54 ++ padX (kx k) 92))) := (hx1.alloc _).setRow hx1.size _
  have hbk : Blk ((w1.alloc (.cells Tryd.zeroCells76 76)).setRow w1.heap.size (bv (padX (kx k) 54 ++ padX (kx k) 92))) w1.heap.size 76 (bv (padX (kx k) 54 ++ padX (kx k) 92)) := (Blk.new w1 76 _).row _
  obtain ⟨g, hg⟩ : ∃ g, g = w1.heap.size := ⟨_, rfl⟩
  have hgw : w.heap.size ≤ g := by have := hx1.size; omega
  rw [← hg] at hxw hbk ⊢
  generalize (w1.alloc (.cells Tryd.zeroCells76 76)).setRow g (bv (padX (kx k) 54 ++ padX (kx k) 92)) = w2 at *
  have hs2 := hs.ext hxw
  have hw2 := hw.ext hxw
  clear hg hx1 hk hs hw
  have hdv := dv_succ (padX (kx k) 54) (padX (kx k) 92) s (r - 1)
  have hdl := dv_len (padX (kx k) 54) (padX (kx k) 92) s (r - 1)
  have hres : (dv (padX (kx k) 54) (padX (kx k) 92) s (r - 1) (pcs z)).take z = dkL k s r z := rfl
  obtain ⟨hpl, hql⟩ := pads_len k
  obtain ⟨D, hD⟩ : ∃ D, dv (padX (kx k) 54) (padX (kx k) 92) s (r - 1) = D := ⟨_, rfl⟩
  rw [hD] at hdv hdl hres
  have hD0 : D 0 = [] := by rw [← hD]; rfl
  generalize padX (kx k) 54 = P at *
  generalize padX (kx k) 92 = Q at *
  have HDV := Kp.mk hdv
  have HD0 := Kp.mk hD0
  have HRES := Kp.mk hres
  have HPL := Kp.mk hpl
  have HQL := Kp.mk hql
  have HBK := Kp.mk hbk
  clear hdv hdl hres hD0 hpl hql hbk hD
  go_loopw [11, 12] (fun v iv wr => ∃ j i m : Nat, i = j + 1 ∧ m = 32 * j ∧ j ≤ pcs z ∧ iv = .int .i64 i ∧ (∃ A c, v = .slice A m c) ∧ Own wr w2.heap.size v m (D j) ∧ Ext w2 wr) (fun _ iv _ => pcs z + 1 - (intOf iv).toNat)
  case atStart => exact ⟨0, 1, 0, rfl, rfl, by omega, rfl, ⟨_, _, rfl⟩, by rw [HD0.out]; exact Own.nil _ _, Ext.refl _⟩
  case round =>
    obtain ⟨j, i, m', hij, hmj, hj, rfl, ⟨Av, cv, rfl⟩, ho, hx⟩ := hrel
    have HIJ := Kp.mk hij
    have HMJ := Kp.mk hmj
    by_cases hlt : j < pcs z
    · have hmz : (m' : Int) < (z : Int) := by have := pcs_lo z j hlt; omega
      have hm2 : m' ≤ 256 := by omega
      have hi2 : i ≤ 9 := by unfold pcs at hlt; omega
      have hlt2 : i < pcs z + 1 := by omega
      have hbk := HBK.out.ext hx
      clear hij hmj
      go_wp2_with (first | (refine wpList_load_row rfl 76 _ rfl g rfl 76 _ (0, 0) _ hbk.h Tryd.underlying76 rfl (by rw [bv_size, List.length_append, HPL.out, HQL.out]; kernel_rfl) ?_) | fail)
      refine (piece_any i r HPL.out HQL.out (hs2.ext hx) (hw2.ext hx) hm hr hr2).mono ?_
      rintro e w5 ⟨A5, c5, rfl, hs5, ho5, hx5⟩
      clear ho5 hbk
      have ho' := ho.ext hx5
      have hx' := hx.trans hx5
      clear ho hx hx5
      go_wp2_with (first | (at_builtin; refine wpList_append_bs rfl (.tmp 35) (.tmp 40) rfl w2.heap.size _ m' (D j) rfl ho' A5 32 c5 _ rfl hs5 (by omega) _ rfl _ rfl w2 hx' (Nat.le_refl _) hx'.size ?_; intro A6 c6 w6 ho6 hx6 _) | fail)
      go_roundw
      case rel =>
        refine ⟨j + 1, i + 1, m' + 32, by rw [HIJ.out], by rw [HMJ.out]; omega, by omega, by go_num, ⟨_, _, rfl⟩, ?_, hx6⟩
        rw [HDV.out, ← HIJ.out]
        exact ho6
      case measure => simp [intOf]; omega
    · obtain rfl : j = pcs z := by omega
      have hzm : ¬ ((m' : Int) < (z : Int)) := by have := pcs_hi z; omega
      have hzm2 : z ≤ m' := by have := pcs_hi z; omega
      have hup := run_uptoB ho z hzm2
      have HO := Kp.mk (ho.take hzm2)
      have HX := Kp.mk hx
      rw [HRES.out] at HO
      clear ho hx hij hmj
      go_wp2_with fail
      go_ret2
      exact ⟨_, _, rfl, HO.out.bs, HO.out.lower hxw.size, hxw.trans HX.out⟩

set_option maxHeartbeats 4000000 in
theorem Based_any {k s : List (BitVec 8)} {A B : Option Addr} {n c m d : Nat} {w : World} (r : Nat) (hk : Bs w A n c k) (hs : Bs w B m d s) (hw : Lay w) (hn : n ≤ 4294967000) (hm : m ≤ 4294967000) (hr : 1 ≤ r) (hr2 : r ≤ 10000) :
    Calls Tryd.prog 37 #[.slice A n c, .slice B m d, .int .i64 (r : Int)] w (FreshE w 32 (bk k s (r - 1))) := by
  go_enter Tryd.func37, Tryd.ntmps37
  go_wp2_with (first | (go_at_call 54; refine (joined_any hk hs (by omega)).mono ?_; rintro e w1 ⟨A1, c1, rfl, hs1, ho1, hx1⟩) | (go_at_call 28; refine (sum_fr _ _ _ _ _ hs1 (hw.ext hx1) (by omega)).mono ?_; rintro e w2 ⟨A2, c2, rfl, hs2, ho2, hx2⟩))
  have hxw : Ext w w2 := (by (repeat (first | assumption | exact Ext.refl _ | apply Ext.drew | apply Ext.drewN | apply Ext.alloc | refine Ext.trans ?_ (by assumption))); first | done | fail)
  have how : Own w2 w.heap.size (.slice A2 32 c2) 32 (bk k s 0) := ho2.lower hx1.size
  clear hk hs hs1 ho1 ho2 hs2 hx2 hx1
  have e1 : (r : Int) - 1 = ((r - 1 : Nat) : Int) := by omega
  obtain ⟨t, ht⟩ : ∃ t, r - 1 = t := ⟨_, rfl⟩
  rw [e1, ht]
  have htl : t ≤ 10000 := by omega
  have HT := Kp.mk ht
  clear e1 ht
  go_loopw [8, 21] (fun v iv wr => ∃ j : Nat, j ≤ t ∧ iv = .int .i64 j ∧ (∃ A c, v = .slice A 32 c) ∧ Own wr w.heap.size v 32 (bk k s j) ∧ Ext w wr) (fun _ iv _ => t - (intOf iv).toNat)
  case atStart => exact ⟨0, by omega, rfl, ⟨_, _, rfl⟩, how, hxw⟩
  case round =>
    clear how hxw
    obtain ⟨j, hj, rfl, ⟨Av, cv, rfl⟩, ho, hx⟩ := hrel
    by_cases hlt : j < t
    · have hbs := bk_succ k s j
      have HBS := Kp.mk hbs
      clear hbs
      go_wp2_with fail
      refine (sum_fr _ _ _ _ _ ho.bs (hw.ext hx) (by omega)).mono ?_
      rintro e w5 ⟨A5, c5, rfl, hs5, ho5, hx5⟩
      go_wp2_with fail
      go_roundw
      case rel => exact ⟨j + 1, by omega, by go_num, ⟨_, _, rfl⟩, by rw [HBS.out]; exact ho5.lower hx.size, hx.trans hx5⟩
      case measure => simp [intOf]; omega
    · obtain rfl : j = t := by omega
      have HO := Kp.mk ho
      have HX := Kp.mk hx
      clear ho hx
      go_wp2_with fail
      go_ret2
      rw [HT.out]
      exact ⟨_, _, rfl, HO.out.bs, HO.out, HX.out⟩
end Go.Proofs.YtkjfhgbpiogigaaDoor
