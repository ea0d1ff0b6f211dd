/-
  The laws' head.
-/
import Derived.Test.YtfipgmjaabggjaaDoorVVe
import Derived.Test.YtfipgmjaabggjaaDoorVVf
import Derived.Test.YtfipgmjaabggjaaDoorVKk
namespace Go.Proofs.YtfipgmjaabggjaaDoor
open Go Go.RowKit
set_option maxRecDepth 4000

theorem lit_us (w : World) (l : List Nat) (cs : Array Value) (hcs : cs = (l.map vL).toArray) (n : Nat) (hn : l.length = n) (hm : n ≤ maxLen) : Rd vL (w.alloc (.cells cs u32t)) (some ⟨w.heap.size, 0, none⟩) n n l := by
  subst hcs
  exact (Rw.has (T := u32t) (e := vL) (B := 0) (Has.new w u32t _ _ rfl) hn (Nat.zero_le _) hm).rd
theorem up_oid : oidB [1, 2, 840, 113549] = [42, 134, 72, 134, 247, 13] := by
  have h0 : g7hi 0 = [] := g7hi_zero
  have h6 : g7hi 6 = [134] := by rw [g7hi_pos 6 (by decide)]; rw [show 6 / 128 = 0 from rfl, h0]; rfl
  have h887 : g7hi 887 = [134, 247] := by rw [g7hi_pos 887 (by decide)]; rw [show 887 / 128 = 6 from rfl, h6]; rfl
  show g7 42 ++ (g7 840 ++ (g7 113549 ++ [])) = _
  unfold g7
  rw [show 42 / 128 = 0 from rfl, show 840 / 128 = 6 from rfl, show 113549 / 128 = 887 from rfl, h0, h6, h887]
  rfl
theorem up_oidP : OidP [1, 2, 840, 113549] := ⟨1, 2, [840, 113549], rfl, by decide, by decide, by decide, by decide, by decide⟩
theorem up_dg : Dg 4294967296 [1, 2, 840, 113549] := by unfold Dg; decide
def upT : Tmt := ⟨2049, 12, 31, 23, 59, 59⟩
def upU : Tmt := ⟨1, 1, 1, 0, 0, 1⟩
theorem upT_may : MayT upT := ⟨by decide, by decide, by decide, by decide, by decide, by decide, by decide, by decide, by decide⟩
theorem upU_may : MayT upU := ⟨by decide, by decide, by decide, by decide, by decide, by decide, by decide, by decide, by decide⟩
theorem upT_B : tmB upT = [52, 57, 49, 50, 51, 49, 50, 51, 53, 57, 53, 57, 90] := by decide
theorem upT_M : tmM upT = 23 := by decide
theorem upU_C : cntT upU = 1 := by decide
theorem up_int {l : List (BitVec 8)} (h1 : tcB l = true) (h2 : tcV l = -129) : l = [255, 127] := tcV_inj h1 (by decide) (h2.trans (by decide))
set_option maxHeartbeats 4000000 in
theorem up8 (w : World) : Calls Tryd.prog 7 #[] w fun e w' => e = .returned (.bool true) ∧ Ext w w' := by
  have ee := code_eq 2 2
  go_enter Tryd.func7, Tryd.ntmps7
  go_wp2_with fail
  refine (ReadInt_any (b := [0, 127]) (w := w.alloc (.cells #[.int .u8 0, .int .u8 127] 5)) ((Blk.new w 5 (bv [0, 127])).bs 0 2 2 (by decide) (by decide)) 0 (err 2) (.inl ⟨by decide, rfl, rfl⟩)).mono ?_
  rintro e w1 ⟨rfl, x1⟩
  have X1 := Kp.mk (Ext.trans ((by (repeat (first | assumption | exact Ext.refl _ | apply Ext.drew | apply Ext.drewN | apply Ext.alloc | refine Ext.trans ?_ (by assumption))); first | done | fail) : Ext w (w.alloc (.cells #[.int .u8 0, .int .u8 127] 5))) x1)
  clear x1
  go_wp2_with fail
  refine (Oid_any (l := [1, 2, 840, 113549]) (w := w1.alloc (.cells #[.int .u32 1, .int .u32 2, .int .u32 840, .int .u32 113549] u32t)) (lit_us w1 [1, 2, 840, 113549] #[.int .u32 1, .int .u32 2, .int .u32 840, .int .u32 113549] rfl 4 rfl (by decide)) up_dg).mono ?_
  rintro e w2 (⟨hno, _, _⟩ | ⟨_, A2, c2, rfl, hs2, ho2, x2⟩)
  · exact absurd up_oidP hno
  rw [up_oid] at hs2
  rw [up_oid]
  have X2 := Kp.mk (X1.out.trans (Ext.trans ((by (repeat (first | assumption | exact Ext.refl _ | apply Ext.drew | apply Ext.drewN | apply Ext.alloc | refine Ext.trans ?_ (by assumption))); first | done | fail) : Ext w1 (w1.alloc (.cells #[.int .u32 1, .int .u32 2, .int .u32 840, .int .u32 113549] u32t))) x2))
  have H2 := Kp.mk (show Bs w2 A2 6 c2 [42, 134, 72, 134, 247, 13] from hs2)
  clear hs2 ho2 x2
  go_wp2_with fail
  refine (Time_ok upT upT_may w2).mono ?_
  rintro e w3 ⟨A3, c3, rfl, ho3, x3⟩
  rw [upT_B] at ho3
  rw [upT_B, upT_M]
  have X3 := Kp.mk (X2.out.trans x3)
  have H3 := Kp.mk (show Bs w3 A3 13 c3 [52, 57, 49, 50, 51, 49, 50, 51, 53, 57, 53, 57, 90] from ho3.bs)
  have H2' := Kp.mk (H2.out.ext x3)
  clear ho3 x3
  go_wp2_with fail
  refine (Count_ok upU upU_may w3).mono ?_
  rintro e w4 ⟨rfl, x4⟩
  rw [upU_C]
  have X4 := Kp.mk (X3.out.trans x4)
  have H3' := Kp.mk (H3.out.ext x4)
  have H2' := Kp.mk (H2'.out.ext x4)
  clear x4
  go_wp2_with fail
  obtain ⟨k, l, hl, hk1, hk8, hb, hv, hC⟩ := Int_any (-129) w4 (by decide) (by decide)
  obtain rfl := up_int hb hv
  obtain rfl : k = 2 := hl.symm
  refine hC.mono ?_
  rintro e w5 ⟨A5, c5, rfl, hs5, ho5, x5⟩
  have S5 := fun (w' : World) (hx : Ext w5 w') => hs5.str hx
  have S3 := fun (w' : World) (hx : Ext w5 w') => (H3'.out.ext x5).str hx
  have S2 := fun (w' : World) (hx : Ext w5 w') => (H2'.out.ext x5).str hx
  rw [show strOf [255, 127] = ⟨#[255, 127]⟩ from rfl] at S5
  rw [show strOf [52, 57, 49, 50, 51, 49, 50, 51, 53, 57, 53, 57, 90] = ⟨#[52, 57, 49, 50, 51, 49, 50, 51, 53, 57, 53, 57, 90]⟩ from rfl] at S3
  rw [show strOf [42, 134, 72, 134, 247, 13] = ⟨#[42, 134, 72, 134, 247, 13]⟩ from rfl] at S2
  have X5 := Kp.mk (X4.out.trans x5)
  have s5 := S5 w5 (Ext.refl _)
  have s3 := S3 w5 (Ext.refl _)
  have s2 := S2 w5 (Ext.refl _)
  clear hs5 ho5 x5 S5 S3 S2 hb hv hC
  go_wp2_with fail
  go_ret
  exact ⟨rfl, X5.out⟩
end Go.Proofs.YtfipgmjaabggjaaDoor
