/-
  The walks of mac.Mark, a derived key's piece.
-/
import Derived.Test.YtkjfhgbpiogigaaDoorMa
import Derived.RegionTactic
import Derived.ChangeAlike
namespace Go.Proofs.YtkjfhgbpiogigaaDoor
open Go Go.RowKit

/-- the load of a struct, behind a name: the walk doesn't open it cell by cell -/
def loadP (v : Value) : Sem Value := Instr.loadAt 76 v
theorem loadP_eq (v : Value) : Instr.loadAt 76 v = loadP v := rfl
attribute [local go_sem ↓] loadP_eq
set_option maxHeartbeats 1000000 in
theorem Mark_any {k b : List (BitVec 8)} {A B : Option Addr} {n c m d : Nat} {w : World} (hk : Bs w A n c k) (hb : Bs w B m d b) (hw : Lay w) (hn : n ≤ 4294967296) (hm : m ≤ 4294967296) :
    Calls Tryd.prog 33 #[.slice A n c, .slice B m d] w (Fresh w 32 (mkL k b)) := by
  go_enter Tryd.func33, Tryd.ntmps33
  go_wp2_with (first | (go_at_call 51; refine (padsOf_any hk hw (by omega)).mono ?_; rintro e w1 ⟨rfl, hx1⟩) | (go_at_call 52; refine (mark_any (pads_len k).1 (pads_len k).2 (hb.ext hx1) (hw.ext hx1) hm).mono ?_; rintro e w2 ⟨A2, c2, rfl, hs2, ho2, hx2⟩))
  go_ret
  exact fresh_mk hs2 ho2 hx1 hx2

theorem be4_bs (i : Nat) (w : World) : Bs (w.alloc (.cells #[.int .u8 (IntKind.u8.wrap ((i : Int) / 16777216)), .int .u8 (IntKind.u8.wrap ((i : Int) / 65536)), .int .u8 (IntKind.u8.wrap ((i : Int) / 256)), .int .u8 (IntKind.u8.wrap (i : Int))] 5)) (some ⟨w.heap.size, 0, none⟩) 4 4 (be4 i) := by
  have e : #[Value.int .u8 (IntKind.u8.wrap ((i : Int) / 16777216)), .int .u8 (IntKind.u8.wrap ((i : Int) / 65536)), .int .u8 (IntKind.u8.wrap ((i : Int) / 256)), .int .u8 (IntKind.u8.wrap (i : Int))] = bv (be4 i) := by
    simp [be4, bv, ub_ofNat, IntKind.wrap_u8]
  rw [e]
  exact (Blk.new w 5 (bv (be4 i))).bs 0 4 4 (by simp [be4]) (Nat.le_refl _)
set_option maxHeartbeats 4000000 in
theorem piece_any {p q s : List (BitVec 8)} {A : Option Addr} {n c : Nat} {w : World} (i r : Nat) (hp : p.length = 64) (hq : q.length = 64) (hs : Bs w A n c s) (hw : Lay w) (hn : n ≤ 4294967000) (hr : 1 ≤ r) (hr2 : r ≤ 10000) :
    Calls Tryd.prog 53 #[.agg (bv (p ++ q)), .slice A n c, .int .i64 (i : Int), .int .i64 (r : Int)] w (Fresh w 32 (pc p q (s ++ be4 i) (r - 1))) := by
  have hpl : (p ++ q).length = 128 := by rw [List.length_append, hp, hq]
  go_enter Tryd.func53, Tryd.ntmps53
  have hx0 : Ext w (w.alloc (.cells (bv (p ++ q)) 76)) := (by (repeat (first | assumption | exact Ext.refl _ | apply Ext.drew | apply Ext.drewN | apply Ext.alloc | refine Ext.trans ?_ (by assumption))); first | done | fail)
  have hz0 := Blk.new w 76 (bv (p ++ q))
  go_wp2
  obtain ⟨g, hg⟩ : ∃ g, g = w.heap.size := ⟨_, rfl⟩
  generalize w.alloc (.cells (bv (p ++ q)) 76) = w0 at *
  rw [← hg] at hz0 ⊢
  have hgl : w.heap.size ≤ g := by omega
  clear hg
  have hR0 := hz0.rg
  have hs0 := hs.ext hx0
  have hw0 := hw.ext hx0
  have hload : ∀ w' : World, Ext w0 w' → (loadP (.pointer (some ⟨g, 0, none⟩))).run Tryd.prog w' = .ok (.agg (bv (p ++ q))) w' := fun w' hx => run_loadAt_mid w' g 0 76 ((p ++ q).map vb) _ (rg_ext hR0 hx) Tryd.underlying76 rfl (by rw [List.length_map, hpl]; kernel_rfl)
  have HP := Kp.mk hp
  have HQ := Kp.mk hq
  clear hs hw hp hq hpl hR0
  go_region_held3 (fun w' => Ext w0 w') (exact (by (repeat (first | assumption | exact Ext.refl _ | apply Ext.drew | apply Ext.drewN | apply Ext.alloc | refine Ext.trans ?_ (by assumption))); first | done | fail)) (first | (go_at_call 54; refine (joined_any (hs0.ext (by (repeat (first | assumption | exact Ext.refl _ | apply Ext.drew | apply Ext.drewN | apply Ext.alloc | refine Ext.trans ?_ (by assumption))); first | done | fail)) (Bs.ext (be4_bs i w0) (by (repeat (first | assumption | exact Ext.refl _ | apply Ext.drew | apply Ext.drewN | apply Ext.alloc | refine Ext.trans ?_ (by assumption))); first | done | fail)) (by omega)).mono ?_; rintro e w1 ⟨A1, c1, rfl, hs1, ho1, hx1⟩) | (go_at_call 52; refine (mark_any HP.out HQ.out (by assumption) (hw0.ext (by (repeat (first | assumption | exact Ext.refl _ | apply Ext.drew | apply Ext.drewN | apply Ext.alloc | refine Ext.trans ?_ (by assumption))); first | done | fail)) (by omega)).mono ?_; rintro e w1 ⟨A1, c1, rfl, hs1, ho1, hx1⟩))
  go_wp2_with fail
  have hxa : Ext w0 w1 := (by (repeat (first | assumption | exact Ext.refl _ | apply Ext.drew | apply Ext.drewN | apply Ext.alloc | refine Ext.trans ?_ (by assumption))); first | done | fail)
  have how : Own w1 w0.heap.size (.slice A1 32 c1) 32 (mkP p q (s ++ be4 i)) := ho1.lower (Ext.size (by (repeat (first | assumption | exact Ext.refl _ | apply Ext.drew | apply Ext.drewN | apply Ext.alloc | refine Ext.trans ?_ (by assumption))); first | done | fail))
  obtain ⟨gp, rfl, hgp, _⟩ := how.some_ (by decide)
  obtain ⟨S, hS⟩ : ∃ S, s ++ be4 i = S := ⟨_, rfl⟩
  rw [hS] at how hs1
  have HS := Kp.mk hS
  have HXA := Kp.mk hxa
  have HOW := Kp.mk how
  have HS1 := Kp.mk hs1
  clear how hs1 hxa hS ho1 hs0
  go_loopw [9, 31] (fun m iv wr => ∃ j : Nat, j ≤ r - 1 ∧ iv = .int .i64 j ∧ (∃ Am cm, m = .slice Am 32 cm ∧ Bs wr Am 32 cm (um p q S j)) ∧ Own wr w0.heap.size (.slice (some ⟨gp, 0, none⟩) 32 c1) 32 (pc p q S j) ∧ Ext w0 wr) (fun _ iv _ => r - 1 - (intOf iv).toNat)
  case atStart => exact ⟨0, by omega, rfl, ⟨_, _, rfl, HS1.out⟩, HOW.out, HXA.out⟩
  case round =>
    clear HXA HOW HS1
    obtain ⟨j, hj, rfl, ⟨Am, cm, rfl, hm⟩, ho, hx⟩ := hrel
    by_cases hlt : j < r - 1
    · obtain ⟨gp', e1, _, hgw⟩ := ho.some_ (by decide)
      obtain rfl : gp = gp' := by cases e1; rfl
      clear e1
      go_wp2_with fail
      refine (mark_any HP.out HQ.out hm (hw0.ext hx) (by omega)).mono ?_
      rintro e w5 ⟨A5, c5, rfl, hs5, ho5, hx5⟩
      obtain ⟨gm, rfl, hgm, _⟩ := ho5.some_ (by decide)
      have hne : gm ≠ gp := by omega
      have ho' : Own w5 w0.heap.size (.slice (some ⟨gp, 0, none⟩) 32 c1) 32 (pc p q S j) := ho.ext hx5
      have hm' : Own w5 w0.heap.size (.slice (some ⟨gm, 0, none⟩) 32 c5) 32 (um p q S (j + 1)) := ho5.lower hx.size
      have hxw : Ext w0 w5 := hx.trans hx5
      have hpn := pc_succ p q S j
      have hul := um_len p q S (j + 1)
      clear hm ho hx hs5 ho5 hx5 hgw hgm
      obtain ⟨U, hU⟩ : ∃ U, um p q S (j + 1) = U := ⟨_, rfl⟩
      obtain ⟨P0, hP0⟩ : ∃ P0, pc p q S j = P0 := ⟨_, rfl⟩
      rw [hU] at hm' hpn hul
      rw [hP0] at ho' hpn
      have hPl : P0.length = 32 := ho'.len
      have HU := Kp.mk hU
      have HPN := Kp.mk hpn
      have HUL := Kp.mk hul
      have HPL := Kp.mk hPl
      clear hU hP0 hpn hul hPl
      go_wp2_with fail
      obtain ⟨wo, rfl⟩ : ∃ wo : World, wo = wr := ⟨_, rfl⟩
      go_loopw [36] (fun tv wi => ∃ t : Nat, t ≤ 32 ∧ tv = .int .i64 t ∧ Own wi w0.heap.size (.slice (some ⟨gp, 0, none⟩) 32 c1) 32 (xorTo P0 U t) ∧ Own wi w0.heap.size (.slice (some ⟨gm, 0, none⟩) 32 c5) 32 U ∧ Ext w0 wi) (fun tv _ => 32 - (intOf tv).toNat)
      case atStart => exact ⟨0, by omega, rfl, ho', hm', hxw⟩
      case round =>
        clear ho' hm' hxw
        obtain ⟨t, ht, rfl, ho, hm, hx⟩ := hrel
        by_cases hlt2 : t < 32
        · have k1 := ho.cell t hlt2
          have k2 := hm.cell t hlt2
          have f1 := ho.free t
          have b0 : (0 : Int) ≤ (t : Int) := by omega
          have b1 : (t : Int) < 32 := by omega
          have hxs := xorTo_succ P0 U t
          have HXS := Kp.mk hxs
          have HO := Kp.mk ho
          have HM := Kp.mk hm
          have HX := Kp.mk hx
          clear ho hm hx hxs
          go_wp2_with fail
          go_region
          go_wp2_with fail
          go_roundw
          case rel =>
            refine ⟨t + 1, by omega, by go_num, ?_, ?_, ?_⟩
            · rw [HXS.out]
              exact (HO.out.set t _).ext (Ext.refl _).drew
            · exact (HM.out.far (p := ⟨gp, t, none⟩) (by simp [Value.ownBlock]; exact hne) _).ext (Ext.refl _).drew
            · exact (HX.out.setCell (p := ⟨gp, t, none⟩) hgp _).drew
          case measure => simp [intOf]; omega
        · obtain rfl : t = 32 := by omega
          rw [← HPN.out] at ho
          have hmb := hm.bs
          rw [← HU.out] at hmb
          have HO := Kp.mk ho
          have HM := Kp.mk hmb
          have HX := Kp.mk hx
          clear ho hm hx hmb
          go_wp2_with fail
          go_roundw
          case rel => exact ⟨j + 1, by omega, by go_num, ⟨_, _, rfl, HM.out⟩, HO.out, HX.out⟩
          case measure => simp [intOf]; omega
    · obtain rfl : j = r - 1 := by omega
      have e1 : ((r - 1 : Nat) : Int) = (r : Int) - 1 := by omega
      have HO := Kp.mk ho
      have HX := Kp.mk hx
      clear ho hx hm
      go_wp2_with fail
      go_ret
      refine ⟨some ⟨gp, 0, none⟩, c1, rfl, ?_, ?_, hx0.trans HX.out⟩
      · rw [HS.out]; exact HO.out.bs
      · rw [HS.out]; exact HO.out.lower hx0.size
end Go.Proofs.YtkjfhgbpiogigaaDoor
