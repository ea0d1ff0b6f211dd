/-
  rsa: factorMay, roundOf, paired.
  rsa: Pair.
  The laws' head: up, light, public, cut; the walk of the law RsaChecks.
  What the rows' readings give the walks: structs of numbers (keys).
-/
import Derived.Test.YticggkllfojgkaaGreatDoorM14
import Derived.Test.YticggkllfojgkaaGreatDoorM28
import Derived.Laws.ResultCell
import Derived.Test.YticggkllfojgkaaGreatDoorM10
import Derived.Lib.SmallJoins
namespace Go.Proofs.YticggkllfojgkaaGreatDoor
open Go Go.RowKit
set_option maxRecDepth 4000

theorem nb_16 {v : Nat} (h : nb v ≤ 64) : v < BB ^ 16 := by
  have h1 := (nb_iff v 64).1 h
  rwa [show (256 : Nat) ^ 64 = BB ^ 16 by rw [show (64 : Nat) = 4 * 16 by rfl, Nat.pow_mul]] at h1
theorem nb_lng (v : Nat) : 256 < nb v ↔ lng v := by
  have h := nb_iff v 256
  rw [show (256 : Nat) ^ 256 = 65536 ^ 128 by rw [show (65536 : Nat) = 256 ^ 2 by rfl, ← Nat.pow_mul]] at h
  have h2 := len_iff (B := 65536) (by decide) v 128
  have h3 := may_iff v
  constructor
  · intro h4 
    exact Decidable.byContradiction fun h5 => by have := h.2 (h2.1 (h3.2 h5)); omega
  · intro h4
    rcases Nat.lt_or_ge 256 (nb v) with h5 | h5
    · exact h5
    · exact absurd h4 (h3.1 (h2.2 (h.1 h5)))
theorem bool_no {b : Bool} {p : Prop} (hb : b = true ↔ p) (h : ¬ p) : b = false := by
  cases b
  · rfl
  · exact absurd (hb.1 rfl) h
section
variable {A B D : Option Addr} {n c m d k f vp vq ve : Nat} {w : World}
theorem factorMay_any (h : Nv w A n c vp) (b : Bool) (hb : b = true ↔ 3 ≤ vp ∧ nb vp ≤ 64) : Calls Tryz.prog 40 #[.slice A n c] w fun e w' => e = .returned (.bool b) ∧ Ext w w' := by
  have HN := Kp.mk h
  clear h
  obtain ⟨N, hN⟩ : ∃ N, nb vp = N := ⟨_, rfl⟩
  have HS := Kp.mk hN
  rw [hN] at hb
  by_cases h3 : 3 ≤ vp
  · obtain ⟨z, hz, z1⟩ := cmpI_up h3
    have H5 := Kp.mk hz
    by_cases h64 : N ≤ 64
    · obtain rfl : b = true := hb.2 ⟨h3, h64⟩
      have d1 : (N : Int) ≤ 64 := by omega
      clear hb hz h3 h64 hN
      go_enter Tryz.func40, Tryz.ntmps40
      go_wp2_with fail
      refine (CmpV (HN.out.ext (by (repeat (first | assumption | exact Ext.refl _ | apply Ext.drew | apply Ext.drewN | apply Ext.alloc | refine Ext.trans ?_ (by assumption))); first | done | fail)) (Nv.lit w 3 3 rfl (by decide) _ rfl) _ H5.out).mono ?_
      rintro e w2 ⟨rfl, x2⟩
      go_wp2_with fail
      refine (sizeOf_any (HN.out.ext (by (repeat (first | assumption | exact Ext.refl _ | apply Ext.drew | apply Ext.drewN | apply Ext.alloc | refine Ext.trans ?_ (by assumption))); first | done | fail))).mono ?_
      rintro e w3 ⟨rfl, rfl⟩
      rw [HS.out]
      have HX := Kp.mk (show Ext w w3 from (by (repeat (first | assumption | exact Ext.refl _ | apply Ext.drew | apply Ext.drewN | apply Ext.alloc | refine Ext.trans ?_ (by assumption))); first | done | fail))
      clear x2
      go_wp2_with fail
      go_ret
      exact ⟨rfl, HX.out⟩
    · obtain rfl : b = false := bool_no hb (by omega)
      have d1 : decide ((N : Int) ≤ 64) = false := decide_eq_false (by omega)
      clear hb hz h3 h64 hN
      go_enter Tryz.func40, Tryz.ntmps40
      go_wp2_with fail
      refine (CmpV (HN.out.ext (by (repeat (first | assumption | exact Ext.refl _ | apply Ext.drew | apply Ext.drewN | apply Ext.alloc | refine Ext.trans ?_ (by assumption))); first | done | fail)) (Nv.lit w 3 3 rfl (by decide) _ rfl) _ H5.out).mono ?_
      rintro e w2 ⟨rfl, x2⟩
      go_wp2_with fail
      refine (sizeOf_any (HN.out.ext (by (repeat (first | assumption | exact Ext.refl _ | apply Ext.drew | apply Ext.drewN | apply Ext.alloc | refine Ext.trans ?_ (by assumption))); first | done | fail))).mono ?_
      rintro e w3 ⟨rfl, rfl⟩
      rw [HS.out]
      have HX := Kp.mk (show Ext w w3 from (by (repeat (first | assumption | exact Ext.refl _ | apply Ext.drew | apply Ext.drewN | apply Ext.alloc | refine Ext.trans ?_ (by assumption))); first | done | fail))
      clear x2
      go_wp2_with fail
      go_ret
      exact ⟨rfl, HX.out⟩
  · obtain rfl : b = false := bool_no hb (by omega)
    have H5 := Kp.mk (cmpI_lt (show vp < 3 by omega))
    clear hb h3 hN
    go_enter Tryz.func40, Tryz.ntmps40
    go_wp2_with fail
    refine (CmpV (HN.out.ext (by (repeat (first | assumption | exact Ext.refl _ | apply Ext.drew | apply Ext.drewN | apply Ext.alloc | refine Ext.trans ?_ (by assumption))); first | done | fail)) (Nv.lit w 3 3 rfl (by decide) _ rfl) _ H5.out).mono ?_
    rintro e w2 ⟨rfl, x2⟩
    have HX := Kp.mk (show Ext w w2 from (by (repeat (first | assumption | exact Ext.refl _ | apply Ext.drew | apply Ext.drewN | apply Ext.alloc | refine Ext.trans ?_ (by assumption))); first | done | fail))
    clear x2
    go_wp2_with fail
    go_ret
    exact ⟨rfl, HX.out⟩
/-- a factor that may be -/
structure Fac (v : Nat) : Prop where
  lo : 3 ≤ v
  hi : nb v ≤ 64
theorem Fac.lt {v : Nat} (h : Fac v) : v < BB ^ 16 := nb_16 h.hi
theorem Fac.pred {v : Nat} (h : Fac v) : v - 1 < BB ^ 16 := Nat.lt_of_le_of_lt (Nat.sub_le _ _) h.lt
theorem Fac.mul {v u : Nat} (h : Fac v) (g : Fac u) : v * u < BB ^ 32 := lt_mul h.lt g.lt (by decide)
theorem Fac.round {v u : Nat} (h : Fac v) (g : Fac u) : (v - 1) * (u - 1) < BB ^ 32 := lt_mul h.pred g.pred (by decide)
theorem Fac.round2 {v u : Nat} (h : Fac v) (g : Fac u) : 2 ≤ (v - 1) * (u - 1) := by
  have h1 := h.lo
  have h2 := g.lo
  have : 2 * 2 ≤ (v - 1) * (u - 1) := Nat.mul_le_mul (by omega) (by omega)
  omega
set_option maxHeartbeats 1000000 in
theorem roundOf_any (hp : Nv w A n c vp) (hq : Nv w B m d vq) (fp : Fac vp) (fq : Fac vq) : Calls Tryz.prog 62 #[.slice A n c, .slice B m d] w (Ok1 w ((vp - 1) * (vq - 1))) := by
  have HP := Kp.mk hp
  have HQ := Kp.mk hq
  have FP := Kp.mk fp
  have FQ := Kp.mk fq
  have l1 : ¬ lng 1 := short_of (k := 1) (by decide) (by decide)
  clear hp hq fp fq
  go_enter Tryz.func62, Tryz.ntmps62
  go_wp2_with fail
  refine (SubV (HP.out.ext (by (repeat (first | assumption | exact Ext.refl _ | apply Ext.drew | apply Ext.drewN | apply Ext.alloc | refine Ext.trans ?_ (by assumption))); first | done | fail)) (Nv.lit w 1 1 rfl (by decide) _ rfl) (short_of FP.out.lt (by decide)) l1 (by have := FP.out.lo; omega)).mono ?_
  rintro e w2 ⟨A2, n2, c2, rfl, r2, x2⟩
  have N2 := Kp.mk (Nv.of r2 (short_of FP.out.pred (by decide)))
  clear r2
  go_wp2_with fail
  refine (SubV (HQ.out.ext (by (repeat (first | assumption | exact Ext.refl _ | apply Ext.drew | apply Ext.drewN | apply Ext.alloc | refine Ext.trans ?_ (by assumption))); first | done | fail)) (Nv.lit w2 1 1 rfl (by decide) _ rfl) (short_of FQ.out.lt (by decide)) l1 (by have := FQ.out.lo; omega)).mono ?_
  rintro e w3 ⟨A3, n3, c3, rfl, r3, x⟩
  have N3 := Kp.mk (Nv.of r3 (short_of FQ.out.pred (by decide)))
  have x3 := Ext.trans (show Ext w2 _ from (by (repeat (first | assumption | exact Ext.refl _ | apply Ext.drew | apply Ext.drewN | apply Ext.alloc | refine Ext.trans ?_ (by assumption))); first | done | fail)) x
  clear r3 x
  go_wp2_with fail
  refine (MulV (N2.out.ext (by (repeat (first | assumption | exact Ext.refl _ | apply Ext.drew | apply Ext.drewN | apply Ext.alloc | refine Ext.trans ?_ (by assumption))); first | done | fail)) (N3.out.ext (by (repeat (first | assumption | exact Ext.refl _ | apply Ext.drew | apply Ext.drewN | apply Ext.alloc | refine Ext.trans ?_ (by assumption))); first | done | fail)) (short_of FP.out.pred (by decide)) (short_of FQ.out.pred (by decide))).mono ?_
  rintro e w4 ⟨A4, n4, c4, rfl, r4, x4⟩
  have R4 := Kp.mk (r4.lower (show w.heap.size ≤ w3.heap.size from (show Ext w w3 from (by (repeat (first | assumption | exact Ext.refl _ | apply Ext.drew | apply Ext.drewN | apply Ext.alloc | refine Ext.trans ?_ (by assumption))); first | done | fail)).size))
  have HX := Kp.mk (show Ext w w4 from (by (repeat (first | assumption | exact Ext.refl _ | apply Ext.drew | apply Ext.drewN | apply Ext.alloc | refine Ext.trans ?_ (by assumption))); first | done | fail))
  clear x2 x3 x4 r4
  go_wp2_with fail
  go_ret2
  exact ⟨A4, n4, c4, rfl, R4.out, HX.out⟩
theorem szS : (Tryz.prog.info? 25).map (·.size) = some 3 := by kernel_rfl
theorem szP2 : (Tryz.prog.info? 40).map (·.size) = some 2 := by kernel_rfl
theorem one_three (A B D : Option Addr) (n c m d k f : Nat) : (#[Value.slice A n c, Value.slice B m d, Value.slice D k f]).all (·.oneCell') = true := by simp [Value.oneCell']
theorem one_two (A B : Option Addr) (n c m d : Nat) : (#[Value.slice A n c, Value.slice B m d]).all (·.oneCell') = true := by simp [Value.oneCell']
theorem Rw.rowfar {α : Type} {T : TypeId} {e : α → Value} {w : World} {B n g : Nat} {v : Value} {l : List α} (h : Rw T e w B v n l) (hg : g < B) (cs : Array Value) : Rw T e (w.setRow g cs) B v n l := by
  refine ⟨h.o.1, ?_⟩
  rcases h.o.2 with h2 | ⟨g', cap, cur, h1, h3, h4, h5⟩
  · exact .inl h2
  · exact .inr ⟨g', cap, cur, h1, h3, (setRow_other w g g' cs (by omega)).trans h4, h5⟩
/-- a result that lies in a block known whole, another beside it -/
theorem results_cell_row2 {P : Program} {fn : Func} {p u : Tmp} {ty : TypeId} (h : fn.results = #[.cell p ty, .tmp u]) (tmps : Array Value) (w : World) (g : Nat) (t : TypeId) (cs : Array Value) (v : Value) (d : TypeDesc)
    (hp : tmps.getD p undef = .pointer (some ⟨g, 0, none⟩)) (hv : tmps.getD u undef = v) (hg : Blk w g t cs)
    (hu : P.underlying ty = some d) (hd : (match d with | .struct _ | .array _ _ => true | _ => false) = true) (hi : (P.info? ty).map (·.size) = some cs.size) :
    (results fn tmps).run P w = .ok (.tuple #[.agg cs, v]) w := by
  rw [results_cell_tmp h, hp, hv]
  simp [asAddr, run_loadVar_row w g t ty cs (0, 0) d hg.h hu hd hi, Result.andThen]
/-- a key, and that there is none -/
def KeyR (w : World) (vn ve vd : Nat) (e : Ending) (w' : World) : Prop :=
  ∃ A n c B m d D k f, e = .returned (.tuple #[.agg #[.slice A n c, .slice B m d, .slice D k f], .nilIface]) ∧ Rw ut vL w' w.heap.size (.slice A n c) n (dgs BB vn) ∧ Rw ut vL w' w.heap.size (.slice B m d) m (dgs BB ve) ∧ Rw ut vL w' w.heap.size (.slice D k f) k (dgs BB vd) ∧ Ext w w'
def NoKey (w : World) (k : Int) (e : Ending) (w' : World) : Prop := e = .returned (.tuple #[.agg #[.slice none 0 0, .slice none 0 0, .slice none 0 0], err k]) ∧ Ext w w'
set_option maxHeartbeats 2000000 in
theorem paired_ok (hp : Nv w A n c vp) (hq : Nv w B m d vq) (he : Nv w D k f ve) (fp : Fac vp) (fq : Fac vq) (le : ¬ lng ve) (hg : Nat.gcd ((vp - 1) * (vq - 1)) ve = 1) :
    Calls Tryz.prog 41 #[.slice A n c, .slice B m d, .slice D k f] w (KeyR w (vp * vq) ve (invN ve ((vp - 1) * (vq - 1)))) := by
  have HP := Kp.mk hp
  have HQ := Kp.mk hq
  have HE := Kp.mk he
  have FP := Kp.mk fp
  have FQ := Kp.mk fq
  have LE := Kp.mk le
  have HG := Kp.mk hg
  clear hp hq he fp fq le hg
  go_enter Tryz.func41, Tryz.ntmps41
  go_wp2_with fail
  refine (MulV (HP.out.ext (by (repeat (first | assumption | exact Ext.refl _ | apply Ext.drew | apply Ext.drewN | apply Ext.alloc | refine Ext.trans ?_ (by assumption))); first | done | fail)) (HQ.out.ext (by (repeat (first | assumption | exact Ext.refl _ | apply Ext.drew | apply Ext.drewN | apply Ext.alloc | refine Ext.trans ?_ (by assumption))); first | done | fail)) (short_of FP.out.lt (by decide)) (short_of FQ.out.lt (by decide))).mono ?_
  rintro e w2 ⟨A2, n2, c2, rfl, r2, x2⟩
  have R2 := Kp.mk (r2.lower (show w.heap.size + 1 ≤ _ by simp))
  clear r2
  go_wp2_with fail
  refine (roundOf_any (HP.out.ext (by (repeat (first | assumption | exact Ext.refl _ | apply Ext.drew | apply Ext.drewN | apply Ext.alloc | refine Ext.trans ?_ (by assumption))); first | done | fail)) (HQ.out.ext (by (repeat (first | assumption | exact Ext.refl _ | apply Ext.drew | apply Ext.drewN | apply Ext.alloc | refine Ext.trans ?_ (by assumption))); first | done | fail)) FP.out FQ.out).mono ?_
  rintro e w3 ⟨A3, n3, c3, rfl, r3, x3⟩
  have N3 := Kp.mk (Nv.of r3 (short_of (FP.out.round FQ.out) (by decide)))
  clear r3
  go_wp2_with fail
  refine (InvV (HE.out.ext (by (repeat (first | assumption | exact Ext.refl _ | apply Ext.drew | apply Ext.drewN | apply Ext.alloc | refine Ext.trans ?_ (by assumption))); first | done | fail)) (N3.out.ext (by (repeat (first | assumption | exact Ext.refl _ | apply Ext.drew | apply Ext.drewN | apply Ext.alloc | refine Ext.trans ?_ (by assumption))); first | done | fail)) LE.out (short_of (FP.out.round FQ.out) (by decide)) (FP.out.round2 FQ.out)).mono ?_
  rintro e w4 (⟨_, A4, n4, c4, rfl, r4, x4⟩ | ⟨h, -⟩)
  rotate_left
  · exact absurd HG.out h
  have hsz := (show Ext (w.alloc (.cells #[.slice none 0 0, .slice none 0 0, .slice none 0 0] 25)) w2 from (by (repeat (first | assumption | exact Ext.refl _ | apply Ext.drew | apply Ext.drewN | apply Ext.alloc | refine Ext.trans ?_ (by assumption))); first | done | fail)).size
  have hsz2 := (show Ext w2 w3 from (by (repeat (first | assumption | exact Ext.refl _ | apply Ext.drew | apply Ext.drewN | apply Ext.alloc | refine Ext.trans ?_ (by assumption))); first | done | fail)).size
  have hsz3 := (show Ext w3 w4 from (by (repeat (first | assumption | exact Ext.refl _ | apply Ext.drew | apply Ext.drewN | apply Ext.alloc | refine Ext.trans ?_ (by assumption))); first | done | fail)).size
  have HSZ : Kp (w.heap.size + 1 ≤ w2.heap.size) := Kp.mk (by simpa using hsz)
  have R4 := Kp.mk (r4.lower (show w.heap.size + 1 ≤ w3.heap.size from Nat.le_trans HSZ.out hsz2))
  have HS4 := Kp.mk (Nat.le_trans HSZ.out (Nat.le_trans hsz2 hsz3))
  clear r4 hsz hsz2 hsz3
  go_wp2_with fail
  refine (AddV (HE.out.ext (by (repeat (first | assumption | exact Ext.refl _ | apply Ext.drew | apply Ext.drewN | apply Ext.alloc | refine Ext.trans ?_ (by assumption))); first | done | fail)) (Nv.nil w4) LE.out (short_of (k := 1) (by decide) (by decide))).mono ?_
  rintro e w5 ⟨A5, n5, c5, rfl, r5, x5⟩
  rw [Nat.add_zero] at r5
  have R5 := Kp.mk (r5.lower HS4.out)
  have R2' := Kp.mk (R2.out.ext (show Ext w2 w5 from (by (repeat (first | assumption | exact Ext.refl _ | apply Ext.drew | apply Ext.drewN | apply Ext.alloc | refine Ext.trans ?_ (by assumption))); first | done | fail)))
  have R4' := Kp.mk (R4.out.ext x5)
  have hb := Blk.new w 25 #[.slice none 0 0, .slice none 0 0, .slice none 0 0]
  have HB := Kp.mk (hb.ext (show Ext _ w5 from (by (repeat (first | assumption | exact Ext.refl _ | apply Ext.drew | apply Ext.drewN | apply Ext.alloc | refine Ext.trans ?_ (by assumption))); first | done | fail)))
  have HX := Kp.mk (show Ext w w5 from (by (repeat (first | assumption | exact Ext.refl _ | apply Ext.drew | apply Ext.drewN | apply Ext.alloc | refine Ext.trans ?_ (by assumption))); first | done | fail))
  clear x2 x3 x4 x5 r5 R2 R4 hb
  go_wp2_with (first | ((with_reducible refine at_store 6 55 ?_); refine wpList_store_row rfl 25 _ _ rfl w.heap.size #[.slice A2 n2 c2, .slice A5 n5 c5, .slice A4 n4 c4] rfl rfl 25 _ HB.out.h szS rfl (one_three _ _ _ _ _ _ _ _ _) ?_) | fail)
  have hx := HX.out.setRow (Nat.le_refl _) #[.slice A2 n2 c2, .slice A5 n5 c5, .slice A4 n4 c4]
  (try simp only [Exit.inBlock, Exit.then])
  refine bodyPost_ret (v := .tuple #[.agg #[.slice A2 n2 c2, .slice A5 n5 c5, .slice A4 n4 c4], .nilIface]) ?_ rfl ?_
  · exact results_cell_row2 rfl _ _ w.heap.size 25 _ _ _ rfl rfl (HB.out.row _) Tryz.underlying25 rfl szS
  have hl : w.heap.size ≤ w.heap.size + 1 := Nat.le_succ _
  exact ⟨_, _, _, _, _, _, _, _, _, rfl, (R2'.out.rowfar (Nat.lt_succ_self _) _).lower hl, (R5.out.rowfar (Nat.lt_succ_self _) _).lower hl, (R4'.out.rowfar (Nat.lt_succ_self _) _).lower hl, hx⟩
set_option maxHeartbeats 2000000 in
theorem paired_none (hp : Nv w A n c vp) (hq : Nv w B m d vq) (he : Nv w D k f ve) (fp : Fac vp) (fq : Fac vq) (le : ¬ lng ve) (hg : Nat.gcd ((vp - 1) * (vq - 1)) ve ≠ 1) :
    Calls Tryz.prog 41 #[.slice A n c, .slice B m d, .slice D k f] w (NoKey w 13) := by
  have HP := Kp.mk hp
  have HQ := Kp.mk hq
  have HE := Kp.mk he
  have FP := Kp.mk fp
  have FQ := Kp.mk fq
  have LE := Kp.mk le
  have HG := Kp.mk hg
  clear hp hq he fp fq le hg
  go_enter Tryz.func41, Tryz.ntmps41
  go_wp2_with fail
  refine (MulV (HP.out.ext (by (repeat (first | assumption | exact Ext.refl _ | apply Ext.drew | apply Ext.drewN | apply Ext.alloc | refine Ext.trans ?_ (by assumption))); first | done | fail)) (HQ.out.ext (by (repeat (first | assumption | exact Ext.refl _ | apply Ext.drew | apply Ext.drewN | apply Ext.alloc | refine Ext.trans ?_ (by assumption))); first | done | fail)) (short_of FP.out.lt (by decide)) (short_of FQ.out.lt (by decide))).mono ?_
  rintro e w2 ⟨A2, n2, c2, rfl, r2, x2⟩
  clear r2
  go_wp2_with fail
  refine (roundOf_any (HP.out.ext (by (repeat (first | assumption | exact Ext.refl _ | apply Ext.drew | apply Ext.drewN | apply Ext.alloc | refine Ext.trans ?_ (by assumption))); first | done | fail)) (HQ.out.ext (by (repeat (first | assumption | exact Ext.refl _ | apply Ext.drew | apply Ext.drewN | apply Ext.alloc | refine Ext.trans ?_ (by assumption))); first | done | fail)) FP.out FQ.out).mono ?_
  rintro e w3 ⟨A3, n3, c3, rfl, r3, x3⟩
  have N3 := Kp.mk (Nv.of r3 (short_of (FP.out.round FQ.out) (by decide)))
  clear r3
  go_wp2_with fail
  refine (InvV (HE.out.ext (by (repeat (first | assumption | exact Ext.refl _ | apply Ext.drew | apply Ext.drewN | apply Ext.alloc | refine Ext.trans ?_ (by assumption))); first | done | fail)) (N3.out.ext (by (repeat (first | assumption | exact Ext.refl _ | apply Ext.drew | apply Ext.drewN | apply Ext.alloc | refine Ext.trans ?_ (by assumption))); first | done | fail)) LE.out (short_of (FP.out.round FQ.out) (by decide)) (FP.out.round2 FQ.out)).mono ?_
  rintro e w4 (⟨h, -⟩ | ⟨_, rfl, x4⟩)
  · exact absurd h HG.out
  have hb := Blk.new w 25 #[.slice none 0 0, .slice none 0 0, .slice none 0 0]
  have HB := Kp.mk (hb.ext (show Ext _ w4 from (by (repeat (first | assumption | exact Ext.refl _ | apply Ext.drew | apply Ext.drewN | apply Ext.alloc | refine Ext.trans ?_ (by assumption))); first | done | fail)))
  have HX := Kp.mk (show Ext w w4 from (by (repeat (first | assumption | exact Ext.refl _ | apply Ext.drew | apply Ext.drewN | apply Ext.alloc | refine Ext.trans ?_ (by assumption))); first | done | fail))
  clear x2 x3 x4 hb
  go_wp2_with (first | ((with_reducible refine at_store 6 41 ?_); refine wpList_store_row rfl 25 _ _ rfl w.heap.size #[.slice none 0 0, .slice none 0 0, .slice none 0 0] rfl rfl 25 _ HB.out.h szS rfl (one_three _ _ _ _ _ _ _ _ _) ?_) | fail)
  have hx := HX.out.setRow (Nat.le_refl _) #[.slice none 0 0, .slice none 0 0, .slice none 0 0]
  (try simp only [Exit.inBlock, Exit.then])
  refine bodyPost_ret (v := .tuple #[.agg #[.slice none 0 0, .slice none 0 0, .slice none 0 0], err 13]) ?_ rfl ?_
  · exact results_cell_row2 rfl _ _ w.heap.size 25 _ _ _ rfl rfl (HB.out.row _) Tryz.underlying25 rfl szS
  exact ⟨rfl, hx⟩
end
end Go.Proofs.YticggkllfojgkaaGreatDoor
namespace Go.Proofs.YticggkllfojgkaaGreatDoor
open Go Go.RowKit
set_option maxRecDepth 4000

/-- the three that are looked at, one behind the other -/
structure Trio (w : World) (g : Nat) (A : Option Addr) (n c : Nat) (B : Option Addr) (m d : Nat) (D : Option Addr) (k f vp vq ve : Nat) : Prop where
  p : Nv w A n c vp
  q : Nv w B m d vq
  e : Nv w D k f ve
  b : ∃ t, Blk w g t #[.slice A n c, .slice B m d, .slice D k f]
theorem Trio.cells {w : World} {g : Nat} {A B D : Option Addr} {n c m d k f vp vq ve : Nat} (h : Trio w g A n c B m d D k f vp vq ve) : w.cell? ⟨g, 0, none⟩ = some (.slice A n c) ∧ w.cell? ⟨g, 1, none⟩ = some (.slice B m d) ∧ w.cell? ⟨g, 2, none⟩ = some (.slice D k f) := by
  obtain ⟨t, hb⟩ := h.b
  exact ⟨hb.h.cell 0, hb.h.cell 1, hb.h.cell 2⟩
section
variable {A B D : Option Addr} {n c m d k f vp vq ve : Nat} {w : World}
set_option maxHeartbeats 4000000 in
theorem Pair_long (hp : Nv w A n c vp) (hq : Nv w B m d vq) (he : Nv w D k f ve) (h : lng vp ∨ lng vq ∨ lng ve) : Calls Tryz.prog 21 #[.slice A n c, .slice B m d, .slice D k f] w (NoKey w 4) := by
  have hx : Ext w ((w.alloc (.cells #[.slice none 0 0, .slice none 0 0, .slice none 0 0] 25)).alloc (.cells #[.slice A n c, .slice B m d, .slice D k f] 23)) := (by (repeat (first | assumption | exact Ext.refl _ | apply Ext.drew | apply Ext.drewN | apply Ext.alloc | refine Ext.trans ?_ (by assumption))); first | done | fail)
  have HT := Kp.mk (show Trio ((w.alloc (.cells #[.slice none 0 0, .slice none 0 0, .slice none 0 0] 25)).alloc (.cells #[.slice A n c, .slice B m d, .slice D k f] 23)) (w.heap.size + 1) A n c B m d D k f vp vq ve from ⟨hp.ext hx, hq.ext hx, he.ext hx, _, by have h := Blk.new (w.alloc (.cells #[.slice none 0 0, .slice none 0 0, .slice none 0 0] 25)) 23 #[.slice A n c, .slice B m d, .slice D k f]; rwa [show (w.alloc (.cells #[.slice none 0 0, .slice none 0 0, .slice none 0 0] 25)).heap.size = w.heap.size + 1 by simp] at h⟩)
  have HB := Kp.mk ((Blk.new w 25 #[.slice none 0 0, .slice none 0 0, .slice none 0 0]).ext (show Ext _ ((w.alloc (.cells #[.slice none 0 0, .slice none 0 0, .slice none 0 0] 25)).alloc (.cells #[.slice A n c, .slice B m d, .slice D k f] 23)) from (by (repeat (first | assumption | exact Ext.refl _ | apply Ext.drew | apply Ext.drewN | apply Ext.alloc | refine Ext.trans ?_ (by assumption))); first | done | fail)))
  have HX := Kp.mk hx
  have hsz : ((w.alloc (.cells #[.slice none 0 0, .slice none 0 0, .slice none 0 0] 25)).alloc (.cells #[.slice A n c, .slice B m d, .slice D k f] 23)).heap.size = w.heap.size + 1 + 1 := by simp
  have HSZ := Kp.mk hsz
  clear hx hp hq he hsz
  rw [← nb_lng, ← nb_lng, ← nb_lng] at h
  obtain ⟨NP, hNP⟩ : ∃ N, nb vp = N := ⟨_, rfl⟩
  obtain ⟨NQ, hNQ⟩ : ∃ N, nb vq = N := ⟨_, rfl⟩
  obtain ⟨NE, hNE⟩ : ∃ N, nb ve = N := ⟨_, rfl⟩
  rw [hNP, hNQ, hNE] at h
  have HP := Kp.mk hNP
  have HQ := Kp.mk hNQ
  have HE := Kp.mk hNE
  clear hNP hNQ hNE
  go_enter Tryz.func21, Tryz.ntmps21
  go_wp2_with fail
  generalize (w.alloc (.cells #[.slice none 0 0, .slice none 0 0, .slice none 0 0] 25)).alloc (.cells #[.slice A n c, .slice B m d, .slice D k f] 23) = W at *
  have kc := HT.out.cells
  obtain ⟨k0, k1, k2⟩ := kc
  go_loopw [17] (fun iv wr => ∃ j : Nat, j ≤ 3 ∧ iv = .int .i64 j ∧ (0 < j → NP ≤ 256) ∧ (1 < j → NQ ≤ 256) ∧ (2 < j → NE ≤ 256) ∧ wr = W) (fun i _ => 3 - (intOf i).toNat)
  case atStart => exact ⟨0, by omega, rfl, by omega, by omega, by omega, rfl⟩
  case round =>
    obtain ⟨j, hj, rfl, g1, g2, g3, rfl⟩ := hrel
    have hj3 : j = 0 ∨ j = 1 ∨ j = 2 ∨ j = 3 := by omega
    rcases hj3 with rfl | rfl | rfl | rfl
    · by_cases hl : NP ≤ 256
      · have b1 : decide ((256 : Int) < (NP : Int)) = false := decide_eq_false (by omega)
        have b2 : decide (256 < NP) = false := decide_eq_false (by omega)
        go_wp2_with fail
        refine (sizeOf_any HT.out.p).mono ?_
        rintro e w1 ⟨rfl, rfl⟩
        rw [HP.out]
        go_wp2_with fail
        go_roundw
        case rel => exact ⟨1, by omega, rfl, fun _ => hl, by omega, by omega, trivial⟩
        case measure => simp [intOf]
      · have b1 : (256 : Int) < (NP : Int) := by omega
        have b2 : 256 < NP := by omega
        clear h g1 g2 g3 hl
        go_wp2_with fail
        refine (sizeOf_any HT.out.p).mono ?_
        rintro e w1 ⟨rfl, rfl⟩
        rw [HP.out]
        go_wp2_with (first | ((with_reducible refine at_store 6 24 ?_); refine wpList_store_row rfl 25 _ _ rfl w.heap.size #[.slice none 0 0, .slice none 0 0, .slice none 0 0] rfl rfl 25 _ HB.out.h szS rfl (one_three _ _ _ _ _ _ _ _ _) ?_) | fail)
        have hx := HX.out.setRow (Nat.le_refl _) #[.slice none 0 0, .slice none 0 0, .slice none 0 0]
        refine bodyPost_ret (v := .tuple #[.agg #[.slice none 0 0, .slice none 0 0, .slice none 0 0], err 4]) ?_ rfl ?_
        · exact results_cell_row2 rfl _ _ w.heap.size 25 _ _ _ rfl rfl (HB.out.row _) Tryz.underlying25 rfl szS
        exact ⟨rfl, hx⟩
    · by_cases hl : NQ ≤ 256
      · have b1 : decide ((256 : Int) < (NQ : Int)) = false := decide_eq_false (by omega)
        have b2 : decide (256 < NQ) = false := decide_eq_false (by omega)
        go_wp2_with fail
        refine (sizeOf_any HT.out.q).mono ?_
        rintro e w1 ⟨rfl, rfl⟩
        rw [HQ.out]
        go_wp2_with fail
        go_roundw
        case rel => exact ⟨2, by omega, rfl, fun _ => g1 (by omega), fun _ => hl, by omega, trivial⟩
        case measure => simp [intOf]
      · have b1 : (256 : Int) < (NQ : Int) := by omega
        have b2 : 256 < NQ := by omega
        clear h g1 g2 g3 hl
        go_wp2_with fail
        refine (sizeOf_any HT.out.q).mono ?_
        rintro e w1 ⟨rfl, rfl⟩
        rw [HQ.out]
        go_wp2_with (first | ((with_reducible refine at_store 6 24 ?_); refine wpList_store_row rfl 25 _ _ rfl w.heap.size #[.slice none 0 0, .slice none 0 0, .slice none 0 0] rfl rfl 25 _ HB.out.h szS rfl (one_three _ _ _ _ _ _ _ _ _) ?_) | fail)
        have hx := HX.out.setRow (Nat.le_refl _) #[.slice none 0 0, .slice none 0 0, .slice none 0 0]
        refine bodyPost_ret (v := .tuple #[.agg #[.slice none 0 0, .slice none 0 0, .slice none 0 0], err 4]) ?_ rfl ?_
        · exact results_cell_row2 rfl _ _ w.heap.size 25 _ _ _ rfl rfl (HB.out.row _) Tryz.underlying25 rfl szS
        exact ⟨rfl, hx⟩
    · by_cases hl : NE ≤ 256
      · have b1 : decide ((256 : Int) < (NE : Int)) = false := decide_eq_false (by omega)
        have b2 : decide (256 < NE) = false := decide_eq_false (by omega)
        go_wp2_with fail
        refine (sizeOf_any HT.out.e).mono ?_
        rintro e w1 ⟨rfl, rfl⟩
        rw [HE.out]
        go_wp2_with fail
        go_roundw
        case rel => exact ⟨3, by omega, rfl, fun _ => g1 (by omega), fun _ => g2 (by omega), fun _ => hl, trivial⟩
        case measure => simp [intOf]
      · have b1 : (256 : Int) < (NE : Int) := by omega
        have b2 : 256 < NE := by omega
        clear h g1 g2 g3 hl
        go_wp2_with fail
        refine (sizeOf_any HT.out.e).mono ?_
        rintro e w1 ⟨rfl, rfl⟩
        rw [HE.out]
        go_wp2_with (first | ((with_reducible refine at_store 6 24 ?_); refine wpList_store_row rfl 25 _ _ rfl w.heap.size #[.slice none 0 0, .slice none 0 0, .slice none 0 0] rfl rfl 25 _ HB.out.h szS rfl (one_three _ _ _ _ _ _ _ _ _) ?_) | fail)
        have hx := HX.out.setRow (Nat.le_refl _) #[.slice none 0 0, .slice none 0 0, .slice none 0 0]
        refine bodyPost_ret (v := .tuple #[.agg #[.slice none 0 0, .slice none 0 0, .slice none 0 0], err 4]) ?_ rfl ?_
        · exact results_cell_row2 rfl _ _ w.heap.size 25 _ _ _ rfl rfl (HB.out.row _) Tryz.underlying25 rfl szS
        exact ⟨rfl, hx⟩
    · exfalso
      have := g1 (by omega)
      have := g2 (by omega)
      have := g3 (by omega)
      omega
set_option maxHeartbeats 4000000 in
theorem Pair_facp (hp : Nv w A n c vp) (hq : Nv w B m d vq) (he : Nv w D k f ve) (sp : ¬ lng vp) (sq : ¬ lng vq) (se : ¬ lng ve) (h : ¬ Fac vp) : Calls Tryz.prog 21 #[.slice A n c, .slice B m d, .slice D k f] w (NoKey w 1) := by
  have hx : Ext w ((w.alloc (.cells #[.slice none 0 0, .slice none 0 0, .slice none 0 0] 25)).alloc (.cells #[.slice A n c, .slice B m d, .slice D k f] 23)) := (by (repeat (first | assumption | exact Ext.refl _ | apply Ext.drew | apply Ext.drewN | apply Ext.alloc | refine Ext.trans ?_ (by assumption))); first | done | fail)
  have HT := Kp.mk (show Trio ((w.alloc (.cells #[.slice none 0 0, .slice none 0 0, .slice none 0 0] 25)).alloc (.cells #[.slice A n c, .slice B m d, .slice D k f] 23)) (w.heap.size + 1) A n c B m d D k f vp vq ve from ⟨hp.ext hx, hq.ext hx, he.ext hx, _, by have h := Blk.new (w.alloc (.cells #[.slice none 0 0, .slice none 0 0, .slice none 0 0] 25)) 23 #[.slice A n c, .slice B m d, .slice D k f]; rwa [show (w.alloc (.cells #[.slice none 0 0, .slice none 0 0, .slice none 0 0] 25)).heap.size = w.heap.size + 1 by simp] at h⟩)
  have HB := Kp.mk ((Blk.new w 25 #[.slice none 0 0, .slice none 0 0, .slice none 0 0]).ext (show Ext _ ((w.alloc (.cells #[.slice none 0 0, .slice none 0 0, .slice none 0 0] 25)).alloc (.cells #[.slice A n c, .slice B m d, .slice D k f] 23)) from (by (repeat (first | assumption | exact Ext.refl _ | apply Ext.drew | apply Ext.drewN | apply Ext.alloc | refine Ext.trans ?_ (by assumption))); first | done | fail)))
  have HX := Kp.mk hx
  have hsz : ((w.alloc (.cells #[.slice none 0 0, .slice none 0 0, .slice none 0 0] 25)).alloc (.cells #[.slice A n c, .slice B m d, .slice D k f] 23)).heap.size = w.heap.size + 1 + 1 := by simp
  have HSZ := Kp.mk hsz
  clear hx hp hq he hsz
  rw [← nb_lng] at sp sq
  have SE := Kp.mk se
  rw [← nb_lng] at se
  obtain ⟨NP, hNP⟩ : ∃ N, nb vp = N := ⟨_, rfl⟩
  obtain ⟨NQ, hNQ⟩ : ∃ N, nb vq = N := ⟨_, rfl⟩
  obtain ⟨NE, hNE⟩ : ∃ N, nb ve = N := ⟨_, rfl⟩
  rw [hNP] at sp
  rw [hNQ] at sq
  rw [hNE] at se
  have HP := Kp.mk hNP
  have HQ := Kp.mk hNQ
  have HE := Kp.mk hNE
  clear hNP hNQ hNE
  have H := Kp.mk h
  clear h
  go_enter Tryz.func21, Tryz.ntmps21
  go_wp2_with fail
  generalize (w.alloc (.cells #[.slice none 0 0, .slice none 0 0, .slice none 0 0] 25)).alloc (.cells #[.slice A n c, .slice B m d, .slice D k f] 23) = W at *
  have kc := HT.out.cells
  go_loopw [17] (fun iv wr => ∃ j : Nat, j ≤ 3 ∧ iv = .int .i64 j ∧ wr = W) (fun i _ => 3 - (intOf i).toNat)
  case atStart => exact ⟨0, by omega, rfl, rfl⟩
  case round =>
    obtain ⟨j, hj, rfl, rfl⟩ := hrel
    have hj3 : j = 0 ∨ j = 1 ∨ j = 2 ∨ j = 3 := by omega
    rcases hj3 with rfl | rfl | rfl | rfl
    · obtain ⟨k0, k1, k2⟩ := kc
      have b1 : decide ((256 : Int) < (NP : Int)) = false := decide_eq_false (by omega)
      have b2 : decide (256 < NP) = false := decide_eq_false (by omega)
      clear sp sq se
      go_wp2_with fail
      refine (sizeOf_any HT.out.p).mono ?_
      rintro e w1 ⟨rfl, rfl⟩
      rw [HP.out]
      go_wp2_with fail
      go_roundw
      case rel => exact ⟨1, by omega, rfl, trivial⟩
      case measure => simp [intOf]
    · obtain ⟨k0, k1, k2⟩ := kc
      have b1 : decide ((256 : Int) < (NQ : Int)) = false := decide_eq_false (by omega)
      have b2 : decide (256 < NQ) = false := decide_eq_false (by omega)
      clear sp sq se
      go_wp2_with fail
      refine (sizeOf_any HT.out.q).mono ?_
      rintro e w1 ⟨rfl, rfl⟩
      rw [HQ.out]
      go_wp2_with fail
      go_roundw
      case rel => exact ⟨2, by omega, rfl, trivial⟩
      case measure => simp [intOf]
    · obtain ⟨k0, k1, k2⟩ := kc
      have b1 : decide ((256 : Int) < (NE : Int)) = false := decide_eq_false (by omega)
      have b2 : decide (256 < NE) = false := decide_eq_false (by omega)
      clear sp sq se
      go_wp2_with fail
      refine (sizeOf_any HT.out.e).mono ?_
      rintro e w1 ⟨rfl, rfl⟩
      rw [HE.out]
      go_wp2_with fail
      go_roundw
      case rel => exact ⟨3, by omega, rfl, trivial⟩
      case measure => simp [intOf]
    · clear sp sq se kc hj
      go_wp2_with fail
      refine (factorMay_any (HT.out.p.ext (by (repeat (first | assumption | exact Ext.refl _ | apply Ext.drew | apply Ext.drewN | apply Ext.alloc | refine Ext.trans ?_ (by assumption))); first | done | fail)) false ⟨(fun h => nomatch h), fun h => absurd (Fac.mk h.1 h.2) H.out⟩).mono ?_
      rintro e w2 ⟨rfl, x2⟩
      have HXX := Kp.mk x2
      clear x2
      go_wp2_with (first | ((with_reducible refine at_store 6 35 ?_); refine wpList_store_row rfl 25 _ _ rfl w.heap.size #[.slice none 0 0, .slice none 0 0, .slice none 0 0] rfl rfl 25 _ (HB.out.ext HXX.out).h szS rfl (one_three _ _ _ _ _ _ _ _ _) ?_) | fail)
      have hx := (HX.out.trans HXX.out).setRow (Nat.le_refl _) #[.slice none 0 0, .slice none 0 0, .slice none 0 0]
      refine bodyPost_ret (v := .tuple #[.agg #[.slice none 0 0, .slice none 0 0, .slice none 0 0], err 1]) ?_ rfl ?_
      · exact results_cell_row2 rfl _ _ w.heap.size 25 _ _ _ rfl rfl ((HB.out.ext HXX.out).row _) Tryz.underlying25 rfl szS
      exact ⟨rfl, hx⟩
set_option maxHeartbeats 4000000 in
theorem Pair_facq (hp : Nv w A n c vp) (hq : Nv w B m d vq) (he : Nv w D k f ve) (sp : ¬ lng vp) (sq : ¬ lng vq) (se : ¬ lng ve) (fp : Fac vp) (h : ¬ Fac vq) : Calls Tryz.prog 21 #[.slice A n c, .slice B m d, .slice D k f] w (NoKey w 1) := by
  have hx : Ext w ((w.alloc (.cells #[.slice none 0 0, .slice none 0 0, .slice none 0 0] 25)).alloc (.cells #[.slice A n c, .slice B m d, .slice D k f] 23)) := (by (repeat (first | assumption | exact Ext.refl _ | apply Ext.drew | apply Ext.drewN | apply Ext.alloc | refine Ext.trans ?_ (by assumption))); first | done | fail)
  have HT := Kp.mk (show Trio ((w.alloc (.cells #[.slice none 0 0, .slice none 0 0, .slice none 0 0] 25)).alloc (.cells #[.slice A n c, .slice B m d, .slice D k f] 23)) (w.heap.size + 1) A n c B m d D k f vp vq ve from ⟨hp.ext hx, hq.ext hx, he.ext hx, _, by have h := Blk.new (w.alloc (.cells #[.slice none 0 0, .slice none 0 0, .slice none 0 0] 25)) 23 #[.slice A n c, .slice B m d, .slice D k f]; rwa [show (w.alloc (.cells #[.slice none 0 0, .slice none 0 0, .slice none 0 0] 25)).heap.size = w.heap.size + 1 by simp] at h⟩)
  have HB := Kp.mk ((Blk.new w 25 #[.slice none 0 0, .slice none 0 0, .slice none 0 0]).ext (show Ext _ ((w.alloc (.cells #[.slice none 0 0, .slice none 0 0, .slice none 0 0] 25)).alloc (.cells #[.slice A n c, .slice B m d, .slice D k f] 23)) from (by (repeat (first | assumption | exact Ext.refl _ | apply Ext.drew | apply Ext.drewN | apply Ext.alloc | refine Ext.trans ?_ (by assumption))); first | done | fail)))
  have HX := Kp.mk hx
  have hsz : ((w.alloc (.cells #[.slice none 0 0, .slice none 0 0, .slice none 0 0] 25)).alloc (.cells #[.slice A n c, .slice B m d, .slice D k f] 23)).heap.size = w.heap.size + 1 + 1 := by simp
  have HSZ := Kp.mk hsz
  clear hx hp hq he hsz
  rw [← nb_lng] at sp sq
  have SE := Kp.mk se
  rw [← nb_lng] at se
  obtain ⟨NP, hNP⟩ : ∃ N, nb vp = N := ⟨_, rfl⟩
  obtain ⟨NQ, hNQ⟩ : ∃ N, nb vq = N := ⟨_, rfl⟩
  obtain ⟨NE, hNE⟩ : ∃ N, nb ve = N := ⟨_, rfl⟩
  rw [hNP] at sp
  rw [hNQ] at sq
  rw [hNE] at se
  have HP := Kp.mk hNP
  have HQ := Kp.mk hNQ
  have HE := Kp.mk hNE
  clear hNP hNQ hNE
  have FP := Kp.mk fp
  have H := Kp.mk h
  clear h fp
  go_enter Tryz.func21, Tryz.ntmps21
  go_wp2_with fail
  generalize (w.alloc (.cells #[.slice none 0 0, .slice none 0 0, .slice none 0 0] 25)).alloc (.cells #[.slice A n c, .slice B m d, .slice D k f] 23) = W at *
  have kc := HT.out.cells
  go_loopw [17] (fun iv wr => ∃ j : Nat, j ≤ 3 ∧ iv = .int .i64 j ∧ wr = W) (fun i _ => 3 - (intOf i).toNat)
  case atStart => exact ⟨0, by omega, rfl, rfl⟩
  case round =>
    obtain ⟨j, hj, rfl, rfl⟩ := hrel
    have hj3 : j = 0 ∨ j = 1 ∨ j = 2 ∨ j = 3 := by omega
    rcases hj3 with rfl | rfl | rfl | rfl
    · obtain ⟨k0, k1, k2⟩ := kc
      have b1 : decide ((256 : Int) < (NP : Int)) = false := decide_eq_false (by omega)
      have b2 : decide (256 < NP) = false := decide_eq_false (by omega)
      clear sp sq se
      go_wp2_with fail
      refine (sizeOf_any HT.out.p).mono ?_
      rintro e w1 ⟨rfl, rfl⟩
      rw [HP.out]
      go_wp2_with fail
      go_roundw
      case rel => exact ⟨1, by omega, rfl, trivial⟩
      case measure => simp [intOf]
    · obtain ⟨k0, k1, k2⟩ := kc
      have b1 : decide ((256 : Int) < (NQ : Int)) = false := decide_eq_false (by omega)
      have b2 : decide (256 < NQ) = false := decide_eq_false (by omega)
      clear sp sq se
      go_wp2_with fail
      refine (sizeOf_any HT.out.q).mono ?_
      rintro e w1 ⟨rfl, rfl⟩
      rw [HQ.out]
      go_wp2_with fail
      go_roundw
      case rel => exact ⟨2, by omega, rfl, trivial⟩
      case measure => simp [intOf]
    · obtain ⟨k0, k1, k2⟩ := kc
      have b1 : decide ((256 : Int) < (NE : Int)) = false := decide_eq_false (by omega)
      have b2 : decide (256 < NE) = false := decide_eq_false (by omega)
      clear sp sq se
      go_wp2_with fail
      refine (sizeOf_any HT.out.e).mono ?_
      rintro e w1 ⟨rfl, rfl⟩
      rw [HE.out]
      go_wp2_with fail
      go_roundw
      case rel => exact ⟨3, by omega, rfl, trivial⟩
      case measure => simp [intOf]
    · clear sp sq se kc hj
      go_wp2_with fail
      refine (factorMay_any (HT.out.p.ext (by (repeat (first | assumption | exact Ext.refl _ | apply Ext.drew | apply Ext.drewN | apply Ext.alloc | refine Ext.trans ?_ (by assumption))); first | done | fail)) true (by simp [FP.out.lo, FP.out.hi])).mono ?_
      rintro e w2 ⟨rfl, x2⟩
      go_wp2_with fail
      refine (factorMay_any (HT.out.q.ext (by (repeat (first | assumption | exact Ext.refl _ | apply Ext.drew | apply Ext.drewN | apply Ext.alloc | refine Ext.trans ?_ (by assumption))); first | done | fail)) false ⟨(fun h => nomatch h), fun h => absurd (Fac.mk h.1 h.2) H.out⟩).mono ?_
      rintro e w3 ⟨rfl, x3⟩
      have HXX := Kp.mk (x2.trans x3)
      clear x2 x3
      go_wp2_with (first | ((with_reducible refine at_store 6 35 ?_); refine wpList_store_row rfl 25 _ _ rfl w.heap.size #[.slice none 0 0, .slice none 0 0, .slice none 0 0] rfl rfl 25 _ (HB.out.ext HXX.out).h szS rfl (one_three _ _ _ _ _ _ _ _ _) ?_) | fail)
      have hx := (HX.out.trans HXX.out).setRow (Nat.le_refl _) #[.slice none 0 0, .slice none 0 0, .slice none 0 0]
      refine bodyPost_ret (v := .tuple #[.agg #[.slice none 0 0, .slice none 0 0, .slice none 0 0], err 1]) ?_ rfl ?_
      · exact results_cell_row2 rfl _ _ w.heap.size 25 _ _ _ rfl rfl ((HB.out.ext HXX.out).row _) Tryz.underlying25 rfl szS
      exact ⟨rfl, hx⟩
set_option maxHeartbeats 4000000 in
theorem Pair_none (hp : Nv w A n c vp) (hq : Nv w B m d vq) (he : Nv w D k f ve) (sp : ¬ lng vp) (sq : ¬ lng vq) (se : ¬ lng ve) (fp : Fac vp) (fq : Fac vq) (hg : Nat.gcd ((vp - 1) * (vq - 1)) ve ≠ 1) : Calls Tryz.prog 21 #[.slice A n c, .slice B m d, .slice D k f] w (NoKey w 13) := by
  have hx : Ext w ((w.alloc (.cells #[.slice none 0 0, .slice none 0 0, .slice none 0 0] 25)).alloc (.cells #[.slice A n c, .slice B m d, .slice D k f] 23)) := (by (repeat (first | assumption | exact Ext.refl _ | apply Ext.drew | apply Ext.drewN | apply Ext.alloc | refine Ext.trans ?_ (by assumption))); first | done | fail)
  have HT := Kp.mk (show Trio ((w.alloc (.cells #[.slice none 0 0, .slice none 0 0, .slice none 0 0] 25)).alloc (.cells #[.slice A n c, .slice B m d, .slice D k f] 23)) (w.heap.size + 1) A n c B m d D k f vp vq ve from ⟨hp.ext hx, hq.ext hx, he.ext hx, _, by have h := Blk.new (w.alloc (.cells #[.slice none 0 0, .slice none 0 0, .slice none 0 0] 25)) 23 #[.slice A n c, .slice B m d, .slice D k f]; rwa [show (w.alloc (.cells #[.slice none 0 0, .slice none 0 0, .slice none 0 0] 25)).heap.size = w.heap.size + 1 by simp] at h⟩)
  have HB := Kp.mk ((Blk.new w 25 #[.slice none 0 0, .slice none 0 0, .slice none 0 0]).ext (show Ext _ ((w.alloc (.cells #[.slice none 0 0, .slice none 0 0, .slice none 0 0] 25)).alloc (.cells #[.slice A n c, .slice B m d, .slice D k f] 23)) from (by (repeat (first | assumption | exact Ext.refl _ | apply Ext.drew | apply Ext.drewN | apply Ext.alloc | refine Ext.trans ?_ (by assumption))); first | done | fail)))
  have HX := Kp.mk hx
  have hsz : ((w.alloc (.cells #[.slice none 0 0, .slice none 0 0, .slice none 0 0] 25)).alloc (.cells #[.slice A n c, .slice B m d, .slice D k f] 23)).heap.size = w.heap.size + 1 + 1 := by simp
  have HSZ := Kp.mk hsz
  clear hx hp hq he hsz
  rw [← nb_lng] at sp sq
  have SE := Kp.mk se
  rw [← nb_lng] at se
  obtain ⟨NP, hNP⟩ : ∃ N, nb vp = N := ⟨_, rfl⟩
  obtain ⟨NQ, hNQ⟩ : ∃ N, nb vq = N := ⟨_, rfl⟩
  obtain ⟨NE, hNE⟩ : ∃ N, nb ve = N := ⟨_, rfl⟩
  rw [hNP] at sp
  rw [hNQ] at sq
  rw [hNE] at se
  have HP := Kp.mk hNP
  have HQ := Kp.mk hNQ
  have HE := Kp.mk hNE
  clear hNP hNQ hNE
  have FP := Kp.mk fp
  have FQ := Kp.mk fq
  have HG := Kp.mk hg
  clear fp fq hg
  go_enter Tryz.func21, Tryz.ntmps21
  go_wp2_with fail
  generalize (w.alloc (.cells #[.slice none 0 0, .slice none 0 0, .slice none 0 0] 25)).alloc (.cells #[.slice A n c, .slice B m d, .slice D k f] 23) = W at *
  have kc := HT.out.cells
  go_loopw [17] (fun iv wr => ∃ j : Nat, j ≤ 3 ∧ iv = .int .i64 j ∧ wr = W) (fun i _ => 3 - (intOf i).toNat)
  case atStart => exact ⟨0, by omega, rfl, rfl⟩
  case round =>
    obtain ⟨j, hj, rfl, rfl⟩ := hrel
    have hj3 : j = 0 ∨ j = 1 ∨ j = 2 ∨ j = 3 := by omega
    rcases hj3 with rfl | rfl | rfl | rfl
    · obtain ⟨k0, k1, k2⟩ := kc
      have b1 : decide ((256 : Int) < (NP : Int)) = false := decide_eq_false (by omega)
      have b2 : decide (256 < NP) = false := decide_eq_false (by omega)
      clear sp sq se
      go_wp2_with fail
      refine (sizeOf_any HT.out.p).mono ?_
      rintro e w1 ⟨rfl, rfl⟩
      rw [HP.out]
      go_wp2_with fail
      go_roundw
      case rel => exact ⟨1, by omega, rfl, trivial⟩
      case measure => simp [intOf]
    · obtain ⟨k0, k1, k2⟩ := kc
      have b1 : decide ((256 : Int) < (NQ : Int)) = false := decide_eq_false (by omega)
      have b2 : decide (256 < NQ) = false := decide_eq_false (by omega)
      clear sp sq se
      go_wp2_with fail
      refine (sizeOf_any HT.out.q).mono ?_
      rintro e w1 ⟨rfl, rfl⟩
      rw [HQ.out]
      go_wp2_with fail
      go_roundw
      case rel => exact ⟨2, by omega, rfl, trivial⟩
      case measure => simp [intOf]
    · obtain ⟨k0, k1, k2⟩ := kc
      have b1 : decide ((256 : Int) < (NE : Int)) = false := decide_eq_false (by omega)
      have b2 : decide (256 < NE) = false := decide_eq_false (by omega)
      clear sp sq se
      go_wp2_with fail
      refine (sizeOf_any HT.out.e).mono ?_
      rintro e w1 ⟨rfl, rfl⟩
      rw [HE.out]
      go_wp2_with fail
      go_roundw
      case rel => exact ⟨3, by omega, rfl, trivial⟩
      case measure => simp [intOf]
    · clear sp sq se kc hj
      go_wp2_with fail
      refine (factorMay_any (HT.out.p.ext (by (repeat (first | assumption | exact Ext.refl _ | apply Ext.drew | apply Ext.drewN | apply Ext.alloc | refine Ext.trans ?_ (by assumption))); first | done | fail)) true (by simp [FP.out.lo, FP.out.hi])).mono ?_
      rintro e w2 ⟨rfl, x2⟩
      go_wp2_with fail
      refine (factorMay_any (HT.out.q.ext (by (repeat (first | assumption | exact Ext.refl _ | apply Ext.drew | apply Ext.drewN | apply Ext.alloc | refine Ext.trans ?_ (by assumption))); first | done | fail)) true (by simp [FQ.out.lo, FQ.out.hi])).mono ?_
      rintro e w3 ⟨rfl, x3⟩
      go_wp2_with fail
      refine (paired_none (HT.out.p.ext (by (repeat (first | assumption | exact Ext.refl _ | apply Ext.drew | apply Ext.drewN | apply Ext.alloc | refine Ext.trans ?_ (by assumption))); first | done | fail)) (HT.out.q.ext (by (repeat (first | assumption | exact Ext.refl _ | apply Ext.drew | apply Ext.drewN | apply Ext.alloc | refine Ext.trans ?_ (by assumption))); first | done | fail)) (HT.out.e.ext (by (repeat (first | assumption | exact Ext.refl _ | apply Ext.drew | apply Ext.drewN | apply Ext.alloc | refine Ext.trans ?_ (by assumption))); first | done | fail)) FP.out FQ.out SE.out HG.out).mono ?_
      rintro e w4 ⟨rfl, x4⟩
      have hb5 := Blk.new w4 25 #[.slice none 0 0, .slice none 0 0, .slice none 0 0]
      have HXX := Kp.mk (show Ext wr (w4.alloc (.cells #[.slice none 0 0, .slice none 0 0, .slice none 0 0] 25)) from (by (repeat (first | assumption | exact Ext.refl _ | apply Ext.drew | apply Ext.drewN | apply Ext.alloc | refine Ext.trans ?_ (by assumption))); first | done | fail))
      clear x2 x3 x4 hb5
      go_wp2_with (first | ((with_reducible refine at_store 6 46 ?_); refine wpList_store_row rfl 25 _ _ rfl w.heap.size #[.slice none 0 0, .slice none 0 0, .slice none 0 0] rfl rfl 25 _ (HB.out.ext HXX.out).h szS rfl (one_three _ _ _ _ _ _ _ _ _) ?_) | fail)
      have hx := (HX.out.trans HXX.out).setRow (Nat.le_refl _) #[.slice none 0 0, .slice none 0 0, .slice none 0 0]
      refine bodyPost_ret (v := .tuple #[.agg #[.slice none 0 0, .slice none 0 0, .slice none 0 0], err 13]) ?_ rfl ?_
      · exact results_cell_row2 rfl _ _ w.heap.size 25 _ _ _ rfl rfl ((HB.out.ext HXX.out).row _) Tryz.underlying25 rfl szS
      exact ⟨rfl, hx⟩
set_option maxHeartbeats 4000000 in
theorem Pair_amiss (hp : Nv w A n c vp) (hq : Nv w B m d vq) (he : Nv w D k f ve) (sp : ¬ lng vp) (sq : ¬ lng vq) (se : ¬ lng ve) (fp : Fac vp) (fq : Fac vq) (hg : Nat.gcd ((vp - 1) * (vq - 1)) ve = 1) (hk : ¬ PubOk (vp * vq) ve) : Calls Tryz.prog 21 #[.slice A n c, .slice B m d, .slice D k f] w (NoKey w 1) := by
  have hx : Ext w ((w.alloc (.cells #[.slice none 0 0, .slice none 0 0, .slice none 0 0] 25)).alloc (.cells #[.slice A n c, .slice B m d, .slice D k f] 23)) := (by (repeat (first | assumption | exact Ext.refl _ | apply Ext.drew | apply Ext.drewN | apply Ext.alloc | refine Ext.trans ?_ (by assumption))); first | done | fail)
  have HT := Kp.mk (show Trio ((w.alloc (.cells #[.slice none 0 0, .slice none 0 0, .slice none 0 0] 25)).alloc (.cells #[.slice A n c, .slice B m d, .slice D k f] 23)) (w.heap.size + 1) A n c B m d D k f vp vq ve from ⟨hp.ext hx, hq.ext hx, he.ext hx, _, by have h := Blk.new (w.alloc (.cells #[.slice none 0 0, .slice none 0 0, .slice none 0 0] 25)) 23 #[.slice A n c, .slice B m d, .slice D k f]; rwa [show (w.alloc (.cells #[.slice none 0 0, .slice none 0 0, .slice none 0 0] 25)).heap.size = w.heap.size + 1 by simp] at h⟩)
  have HB := Kp.mk ((Blk.new w 25 #[.slice none 0 0, .slice none 0 0, .slice none 0 0]).ext (show Ext _ ((w.alloc (.cells #[.slice none 0 0, .slice none 0 0, .slice none 0 0] 25)).alloc (.cells #[.slice A n c, .slice B m d, .slice D k f] 23)) from (by (repeat (first | assumption | exact Ext.refl _ | apply Ext.drew | apply Ext.drewN | apply Ext.alloc | refine Ext.trans ?_ (by assumption))); first | done | fail)))
  have HX := Kp.mk hx
  have hsz : ((w.alloc (.cells #[.slice none 0 0, .slice none 0 0, .slice none 0 0] 25)).alloc (.cells #[.slice A n c, .slice B m d, .slice D k f] 23)).heap.size = w.heap.size + 1 + 1 := by simp
  have HSZ := Kp.mk hsz
  clear hx hp hq he hsz
  rw [← nb_lng] at sp sq
  have SE := Kp.mk se
  rw [← nb_lng] at se
  obtain ⟨NP, hNP⟩ : ∃ N, nb vp = N := ⟨_, rfl⟩
  obtain ⟨NQ, hNQ⟩ : ∃ N, nb vq = N := ⟨_, rfl⟩
  obtain ⟨NE, hNE⟩ : ∃ N, nb ve = N := ⟨_, rfl⟩
  rw [hNP] at sp
  rw [hNQ] at sq
  rw [hNE] at se
  have HP := Kp.mk hNP
  have HQ := Kp.mk hNQ
  have HE := Kp.mk hNE
  clear hNP hNQ hNE
  have FP := Kp.mk fp
  have FQ := Kp.mk fq
  have HG := Kp.mk hg
  clear fp fq hg
  have HK := Kp.mk hk
  clear hk
  go_enter Tryz.func21, Tryz.ntmps21
  go_wp2_with fail
  generalize (w.alloc (.cells #[.slice none 0 0, .slice none 0 0, .slice none 0 0] 25)).alloc (.cells #[.slice A n c, .slice B m d, .slice D k f] 23) = W at *
  have kc := HT.out.cells
  go_loopw [17] (fun iv wr => ∃ j : Nat, j ≤ 3 ∧ iv = .int .i64 j ∧ wr = W) (fun i _ => 3 - (intOf i).toNat)
  case atStart => exact ⟨0, by omega, rfl, rfl⟩
  case round =>
    obtain ⟨j, hj, rfl, rfl⟩ := hrel
    have hj3 : j = 0 ∨ j = 1 ∨ j = 2 ∨ j = 3 := by omega
    rcases hj3 with rfl | rfl | rfl | rfl
    · obtain ⟨k0, k1, k2⟩ := kc
      have b1 : decide ((256 : Int) < (NP : Int)) = false := decide_eq_false (by omega)
      have b2 : decide (256 < NP) = false := decide_eq_false (by omega)
      clear sp sq se
      go_wp2_with fail
      refine (sizeOf_any HT.out.p).mono ?_
      rintro e w1 ⟨rfl, rfl⟩
      rw [HP.out]
      go_wp2_with fail
      go_roundw
      case rel => exact ⟨1, by omega, rfl, trivial⟩
      case measure => simp [intOf]
    · obtain ⟨k0, k1, k2⟩ := kc
      have b1 : decide ((256 : Int) < (NQ : Int)) = false := decide_eq_false (by omega)
      have b2 : decide (256 < NQ) = false := decide_eq_false (by omega)
      clear sp sq se
      go_wp2_with fail
      refine (sizeOf_any HT.out.q).mono ?_
      rintro e w1 ⟨rfl, rfl⟩
      rw [HQ.out]
      go_wp2_with fail
      go_roundw
      case rel => exact ⟨2, by omega, rfl, trivial⟩
      case measure => simp [intOf]
    · obtain ⟨k0, k1, k2⟩ := kc
      have b1 : decide ((256 : Int) < (NE : Int)) = false := decide_eq_false (by omega)
      have b2 : decide (256 < NE) = false := decide_eq_false (by omega)
      clear sp sq se
      go_wp2_with fail
      refine (sizeOf_any HT.out.e).mono ?_
      rintro e w1 ⟨rfl, rfl⟩
      rw [HE.out]
      go_wp2_with fail
      go_roundw
      case rel => exact ⟨3, by omega, rfl, trivial⟩
      case measure => simp [intOf]
    · clear sp sq se kc hj
      go_wp2_with fail
      refine (factorMay_any (HT.out.p.ext (by (repeat (first | assumption | exact Ext.refl _ | apply Ext.drew | apply Ext.drewN | apply Ext.alloc | refine Ext.trans ?_ (by assumption))); first | done | fail)) true (by simp [FP.out.lo, FP.out.hi])).mono ?_
      rintro e w2 ⟨rfl, x2⟩
      go_wp2_with fail
      refine (factorMay_any (HT.out.q.ext (by (repeat (first | assumption | exact Ext.refl _ | apply Ext.drew | apply Ext.drewN | apply Ext.alloc | refine Ext.trans ?_ (by assumption))); first | done | fail)) true (by simp [FQ.out.lo, FQ.out.hi])).mono ?_
      rintro e w3 ⟨rfl, x3⟩
      go_wp2_with fail
      refine (paired_ok (HT.out.p.ext (by (repeat (first | assumption | exact Ext.refl _ | apply Ext.drew | apply Ext.drewN | apply Ext.alloc | refine Ext.trans ?_ (by assumption))); first | done | fail)) (HT.out.q.ext (by (repeat (first | assumption | exact Ext.refl _ | apply Ext.drew | apply Ext.drewN | apply Ext.alloc | refine Ext.trans ?_ (by assumption))); first | done | fail)) (HT.out.e.ext (by (repeat (first | assumption | exact Ext.refl _ | apply Ext.drew | apply Ext.drewN | apply Ext.alloc | refine Ext.trans ?_ (by assumption))); first | done | fail)) FP.out FQ.out SE.out HG.out).mono ?_
      rintro e w4 ⟨A4, n4, c4, A5, n5, c5, A6, n6, c6, rfl, r4, r5, r6, x4⟩
      have hs4 : w.heap.size + 1 ≤ w3.heap.size := by have h1 := (x2.trans x3).size; have h2 := HSZ.out; omega
      have R4 := Kp.mk (r4.lower hs4)
      have R5 := Kp.mk (r5.lower hs4)
      have R6 := Kp.mk (r6.lower hs4)
      have hiv := invN_spec (FP.out.round2 FQ.out) HG.out
      have hlt : (vp - 1) * (vq - 1) < vp * vq := by have h1 := FP.out.lo; have h2 := FQ.out.lo; exact Nat.lt_of_le_of_lt (Nat.mul_le_mul_right _ (Nat.sub_le _ _)) (Nat.mul_lt_mul_of_pos_left (by omega) (by omega))
      have hd1 : 1 ≤ invN ve ((vp - 1) * (vq - 1)) := by rcases Nat.eq_zero_or_pos (invN ve ((vp - 1) * (vq - 1))) with h | h; (rw [h, Nat.zero_mul, Nat.zero_mod] at hiv; exact absurd hiv.2 (by decide)); exact h
      have N4 := Kp.mk (Nv.of r4 (short_of (FP.out.mul FQ.out) (by decide)))
      have N5 := Kp.mk (Nv.of r5 SE.out)
      have N6 := Kp.mk (Nv.of r6 (short_of (Nat.lt_trans hiv.1 (FP.out.round FQ.out)) (by decide)))
      have HD := Kp.mk (And.intro hd1 (Nat.lt_trans hiv.1 hlt))
      generalize vp * vq = vn at *
      generalize invN ve ((vp - 1) * (vq - 1)) = vd at *
      have HXX := Kp.mk (show Ext wr (w4.alloc (.cells #[.slice A4 n4 c4, .slice A5 n5 c5, .slice A6 n6 c6] 25)) from (by (repeat (first | assumption | exact Ext.refl _ | apply Ext.drew | apply Ext.drewN | apply Ext.alloc | refine Ext.trans ?_ (by assumption))); first | done | fail))
      have HXW := Kp.mk (show Ext wr w4 from (by (repeat (first | assumption | exact Ext.refl _ | apply Ext.drew | apply Ext.drewN | apply Ext.alloc | refine Ext.trans ?_ (by assumption))); first | done | fail))
      clear hiv hlt hd1 r4 r5 r6 x2 x3 x4 hs4
      have HZ := Kp.mk (Blk.new w4 25 #[.slice none 0 0, .slice none 0 0, .slice none 0 0])
      have HR := Kp.mk (HZ.out.row #[.slice A4 n4 c4, .slice A5 n5 c5, .slice A6 n6 c6])
      have HW := Kp.mk (Ext.setRow (show Ext w4 (w4.alloc (.cells #[.slice none 0 0, .slice none 0 0, .slice none 0 0] 25)) from (by (repeat (first | assumption | exact Ext.refl _ | apply Ext.drew | apply Ext.drewN | apply Ext.alloc | refine Ext.trans ?_ (by assumption))); first | done | fail)) (Nat.le_refl w4.heap.size) #[.slice A4 n4 c4, .slice A5 n5 c5, .slice A6 n6 c6])
      go_wp2_with (first | ((with_reducible refine at_store 10 42 ?_); refine wpList_store_row rfl 25 _ _ rfl w4.heap.size #[.slice A4 n4 c4, .slice A5 n5 c5, .slice A6 n6 c6] rfl rfl 25 _ HZ.out.h szS rfl (one_three _ _ _ _ _ _ _ _ _) ?_) | ((with_reducible refine at_load_to 48 10 ?_); refine wpList_load_row rfl 25 _ rfl w4.heap.size rfl 25 _ (0, 0) _ HR.out.h Tryz.underlying25 rfl szS ?_) | fail)
      generalize (w4.alloc (.cells #[.slice none 0 0, .slice none 0 0, .slice none 0 0] 25)).setRow w4.heap.size #[.slice A4 n4 c4, .slice A5 n5 c5, .slice A6 n6 c6] = wz at *
      refine (secretMay_any (N4.out.ext HW.out) (N5.out.ext HW.out) (N6.out.ext HW.out) false (⟨(fun h => nomatch h), fun h => absurd h.1 HK.out⟩)).mono ?_
      rintro e w5 ⟨rfl, x5⟩
      have HXX := Kp.mk ((HXW.out.trans HW.out).trans x5)
      clear x5
      go_wp2_with (first | ((with_reducible refine at_store 6 51 ?_); refine wpList_store_row rfl 25 _ _ rfl w.heap.size #[.slice none 0 0, .slice none 0 0, .slice none 0 0] rfl rfl 25 _ (HB.out.ext HXX.out).h szS rfl (one_three _ _ _ _ _ _ _ _ _) ?_) | fail)
      have hx := (HX.out.trans HXX.out).setRow (Nat.le_refl _) #[.slice none 0 0, .slice none 0 0, .slice none 0 0]
      refine bodyPost_ret (v := .tuple #[.agg #[.slice none 0 0, .slice none 0 0, .slice none 0 0], err 1]) ?_ rfl ?_
      · exact results_cell_row2 rfl _ _ w.heap.size 25 _ _ _ rfl rfl ((HB.out.ext HXX.out).row _) Tryz.underlying25 rfl szS
      exact ⟨rfl, hx⟩
set_option maxHeartbeats 4000000 in
theorem Pair_ok (hp : Nv w A n c vp) (hq : Nv w B m d vq) (he : Nv w D k f ve) (sp : ¬ lng vp) (sq : ¬ lng vq) (se : ¬ lng ve) (fp : Fac vp) (fq : Fac vq) (hg : Nat.gcd ((vp - 1) * (vq - 1)) ve = 1) (hk : PubOk (vp * vq) ve) : Calls Tryz.prog 21 #[.slice A n c, .slice B m d, .slice D k f] w (KeyR w (vp * vq) ve (invN ve ((vp - 1) * (vq - 1)))) := by
  have hx : Ext w ((w.alloc (.cells #[.slice none 0 0, .slice none 0 0, .slice none 0 0] 25)).alloc (.cells #[.slice A n c, .slice B m d, .slice D k f] 23)) := (by (repeat (first | assumption | exact Ext.refl _ | apply Ext.drew | apply Ext.drewN | apply Ext.alloc | refine Ext.trans ?_ (by assumption))); first | done | fail)
  have HT := Kp.mk (show Trio ((w.alloc (.cells #[.slice none 0 0, .slice none 0 0, .slice none 0 0] 25)).alloc (.cells #[.slice A n c, .slice B m d, .slice D k f] 23)) (w.heap.size + 1) A n c B m d D k f vp vq ve from ⟨hp.ext hx, hq.ext hx, he.ext hx, _, by have h := Blk.new (w.alloc (.cells #[.slice none 0 0, .slice none 0 0, .slice none 0 0] 25)) 23 #[.slice A n c, .slice B m d, .slice D k f]; rwa [show (w.alloc (.cells #[.slice none 0 0, .slice none 0 0, .slice none 0 0] 25)).heap.size = w.heap.size + 1 by simp] at h⟩)
  have HB := Kp.mk ((Blk.new w 25 #[.slice none 0 0, .slice none 0 0, .slice none 0 0]).ext (show Ext _ ((w.alloc (.cells #[.slice none 0 0, .slice none 0 0, .slice none 0 0] 25)).alloc (.cells #[.slice A n c, .slice B m d, .slice D k f] 23)) from (by (repeat (first | assumption | exact Ext.refl _ | apply Ext.drew | apply Ext.drewN | apply Ext.alloc | refine Ext.trans ?_ (by assumption))); first | done | fail)))
  have HX := Kp.mk hx
  have hsz : ((w.alloc (.cells #[.slice none 0 0, .slice none 0 0, .slice none 0 0] 25)).alloc (.cells #[.slice A n c, .slice B m d, .slice D k f] 23)).heap.size = w.heap.size + 1 + 1 := by simp
  have HSZ := Kp.mk hsz
  clear hx hp hq he hsz
  rw [← nb_lng] at sp sq
  have SE := Kp.mk se
  rw [← nb_lng] at se
  obtain ⟨NP, hNP⟩ : ∃ N, nb vp = N := ⟨_, rfl⟩
  obtain ⟨NQ, hNQ⟩ : ∃ N, nb vq = N := ⟨_, rfl⟩
  obtain ⟨NE, hNE⟩ : ∃ N, nb ve = N := ⟨_, rfl⟩
  rw [hNP] at sp
  rw [hNQ] at sq
  rw [hNE] at se
  have HP := Kp.mk hNP
  have HQ := Kp.mk hNQ
  have HE := Kp.mk hNE
  clear hNP hNQ hNE
  have FP := Kp.mk fp
  have FQ := Kp.mk fq
  have HG := Kp.mk hg
  clear fp fq hg
  have HK := Kp.mk hk
  clear hk
  go_enter Tryz.func21, Tryz.ntmps21
  go_wp2_with fail
  generalize (w.alloc (.cells #[.slice none 0 0, .slice none 0 0, .slice none 0 0] 25)).alloc (.cells #[.slice A n c, .slice B m d, .slice D k f] 23) = W at *
  have kc := HT.out.cells
  go_loopw [17] (fun iv wr => ∃ j : Nat, j ≤ 3 ∧ iv = .int .i64 j ∧ wr = W) (fun i _ => 3 - (intOf i).toNat)
  case atStart => exact ⟨0, by omega, rfl, rfl⟩
  case round =>
    obtain ⟨j, hj, rfl, rfl⟩ := hrel
    have hj3 : j = 0 ∨ j = 1 ∨ j = 2 ∨ j = 3 := by omega
    rcases hj3 with rfl | rfl | rfl | rfl
    · obtain ⟨k0, k1, k2⟩ := kc
      have b1 : decide ((256 : Int) < (NP : Int)) = false := decide_eq_false (by omega)
      have b2 : decide (256 < NP) = false := decide_eq_false (by omega)
      clear sp sq se
      go_wp2_with fail
      refine (sizeOf_any HT.out.p).mono ?_
      rintro e w1 ⟨rfl, rfl⟩
      rw [HP.out]
      go_wp2_with fail
      go_roundw
      case rel => exact ⟨1, by omega, rfl, trivial⟩
      case measure => simp [intOf]
    · obtain ⟨k0, k1, k2⟩ := kc
      have b1 : decide ((256 : Int) < (NQ : Int)) = false := decide_eq_false (by omega)
      have b2 : decide (256 < NQ) = false := decide_eq_false (by omega)
      clear sp sq se
      go_wp2_with fail
      refine (sizeOf_any HT.out.q).mono ?_
      rintro e w1 ⟨rfl, rfl⟩
      rw [HQ.out]
      go_wp2_with fail
      go_roundw
      case rel => exact ⟨2, by omega, rfl, trivial⟩
      case measure => simp [intOf]
    · obtain ⟨k0, k1, k2⟩ := kc
      have b1 : decide ((256 : Int) < (NE : Int)) = false := decide_eq_false (by omega)
      have b2 : decide (256 < NE) = false := decide_eq_false (by omega)
      clear sp sq se
      go_wp2_with fail
      refine (sizeOf_any HT.out.e).mono ?_
      rintro e w1 ⟨rfl, rfl⟩
      rw [HE.out]
      go_wp2_with fail
      go_roundw
      case rel => exact ⟨3, by omega, rfl, trivial⟩
      case measure => simp [intOf]
    · clear sp sq se kc hj
      go_wp2_with fail
      refine (factorMay_any (HT.out.p.ext (by (repeat (first | assumption | exact Ext.refl _ | apply Ext.drew | apply Ext.drewN | apply Ext.alloc | refine Ext.trans ?_ (by assumption))); first | done | fail)) true (by simp [FP.out.lo, FP.out.hi])).mono ?_
      rintro e w2 ⟨rfl, x2⟩
      go_wp2_with fail
      refine (factorMay_any (HT.out.q.ext (by (repeat (first | assumption | exact Ext.refl _ | apply Ext.drew | apply Ext.drewN | apply Ext.alloc | refine Ext.trans ?_ (by assumption))); first | done | fail)) true (by simp [FQ.out.lo, FQ.out.hi])).mono ?_
      rintro e w3 ⟨rfl, x3⟩
      go_wp2_with fail
      refine (paired_ok (HT.out.p.ext (by (repeat (first | assumption | exact Ext.refl _ | apply Ext.drew | apply Ext.drewN | apply Ext.alloc | refine Ext.trans ?_ (by assumption))); first | done | fail)) (HT.out.q.ext (by (repeat (first | assumption | exact Ext.refl _ | apply Ext.drew | apply Ext.drewN | apply Ext.alloc | refine Ext.trans ?_ (by assumption))); first | done | fail)) (HT.out.e.ext (by (repeat (first | assumption | exact Ext.refl _ | apply Ext.drew | apply Ext.drewN | apply Ext.alloc | refine Ext.trans ?_ (by assumption))); first | done | fail)) FP.out FQ.out SE.out HG.out).mono ?_
      rintro e w4 ⟨A4, n4, c4, A5, n5, c5, A6, n6, c6, rfl, r4, r5, r6, x4⟩
      have hs4 : w.heap.size + 1 ≤ w3.heap.size := by have h1 := (x2.trans x3).size; have h2 := HSZ.out; omega
      have R4 := Kp.mk (r4.lower hs4)
      have R5 := Kp.mk (r5.lower hs4)
      have R6 := Kp.mk (r6.lower hs4)
      have hiv := invN_spec (FP.out.round2 FQ.out) HG.out
      have hlt : (vp - 1) * (vq - 1) < vp * vq := by have h1 := FP.out.lo; have h2 := FQ.out.lo; exact Nat.lt_of_le_of_lt (Nat.mul_le_mul_right _ (Nat.sub_le _ _)) (Nat.mul_lt_mul_of_pos_left (by omega) (by omega))
      have hd1 : 1 ≤ invN ve ((vp - 1) * (vq - 1)) := by rcases Nat.eq_zero_or_pos (invN ve ((vp - 1) * (vq - 1))) with h | h; (rw [h, Nat.zero_mul, Nat.zero_mod] at hiv; exact absurd hiv.2 (by decide)); exact h
      have N4 := Kp.mk (Nv.of r4 (short_of (FP.out.mul FQ.out) (by decide)))
      have N5 := Kp.mk (Nv.of r5 SE.out)
      have N6 := Kp.mk (Nv.of r6 (short_of (Nat.lt_trans hiv.1 (FP.out.round FQ.out)) (by decide)))
      have HD := Kp.mk (And.intro hd1 (Nat.lt_trans hiv.1 hlt))
      generalize vp * vq = vn at *
      generalize invN ve ((vp - 1) * (vq - 1)) = vd at *
      have HXX := Kp.mk (show Ext wr (w4.alloc (.cells #[.slice A4 n4 c4, .slice A5 n5 c5, .slice A6 n6 c6] 25)) from (by (repeat (first | assumption | exact Ext.refl _ | apply Ext.drew | apply Ext.drewN | apply Ext.alloc | refine Ext.trans ?_ (by assumption))); first | done | fail))
      have HXW := Kp.mk (show Ext wr w4 from (by (repeat (first | assumption | exact Ext.refl _ | apply Ext.drew | apply Ext.drewN | apply Ext.alloc | refine Ext.trans ?_ (by assumption))); first | done | fail))
      clear hiv hlt hd1 r4 r5 r6 x2 x3 x4 hs4
      have HZ := Kp.mk (Blk.new w4 25 #[.slice none 0 0, .slice none 0 0, .slice none 0 0])
      have HR := Kp.mk (HZ.out.row #[.slice A4 n4 c4, .slice A5 n5 c5, .slice A6 n6 c6])
      have HW := Kp.mk (Ext.setRow (show Ext w4 (w4.alloc (.cells #[.slice none 0 0, .slice none 0 0, .slice none 0 0] 25)) from (by (repeat (first | assumption | exact Ext.refl _ | apply Ext.drew | apply Ext.drewN | apply Ext.alloc | refine Ext.trans ?_ (by assumption))); first | done | fail)) (Nat.le_refl w4.heap.size) #[.slice A4 n4 c4, .slice A5 n5 c5, .slice A6 n6 c6])
      go_wp2_with (first | ((with_reducible refine at_store 10 42 ?_); refine wpList_store_row rfl 25 _ _ rfl w4.heap.size #[.slice A4 n4 c4, .slice A5 n5 c5, .slice A6 n6 c6] rfl rfl 25 _ HZ.out.h szS rfl (one_three _ _ _ _ _ _ _ _ _) ?_) | ((with_reducible refine at_load_to 48 10 ?_); refine wpList_load_row rfl 25 _ rfl w4.heap.size rfl 25 _ (0, 0) _ HR.out.h Tryz.underlying25 rfl szS ?_) | fail)
      generalize (w4.alloc (.cells #[.slice none 0 0, .slice none 0 0, .slice none 0 0] 25)).setRow w4.heap.size #[.slice A4 n4 c4, .slice A5 n5 c5, .slice A6 n6 c6] = wz at *
      refine (secretMay_any (N4.out.ext HW.out) (N5.out.ext HW.out) (N6.out.ext HW.out) true (⟨fun _ => ⟨HK.out, HD.out⟩, fun _ => rfl⟩)).mono ?_
      rintro e w5 ⟨rfl, x5⟩
      have HXX := Kp.mk ((HXW.out.trans HW.out).trans x5)
      have HR5 := Kp.mk (HR.out.ext x5)
      have Q4 := Kp.mk ((R4.out.ext HW.out).ext x5)
      have Q5 := Kp.mk ((R5.out.ext HW.out).ext x5)
      have Q6 := Kp.mk ((R6.out.ext HW.out).ext x5)
      clear x5
      go_wp2_with (first | ((with_reducible refine at_load_to 53 10 ?_); refine wpList_load_row rfl 25 _ rfl w4.heap.size rfl 25 _ (0, 0) _ HR5.out.h Tryz.underlying25 rfl szS ?_) | ((with_reducible refine at_store 6 53 ?_); refine wpList_store_row rfl 25 _ _ rfl w.heap.size #[.slice A4 n4 c4, .slice A5 n5 c5, .slice A6 n6 c6] rfl rfl 25 _ (HB.out.ext HXX.out).h szS rfl (one_three _ _ _ _ _ _ _ _ _) ?_) | fail)
      have hx := (HX.out.trans HXX.out).setRow (Nat.le_refl _) #[.slice A4 n4 c4, .slice A5 n5 c5, .slice A6 n6 c6]
      refine bodyPost_ret (v := .tuple #[.agg #[.slice A4 n4 c4, .slice A5 n5 c5, .slice A6 n6 c6], .nilIface]) ?_ rfl ?_
      · exact results_cell_row2 rfl _ _ w.heap.size 25 _ _ _ rfl rfl ((HB.out.ext HXX.out).row _) Tryz.underlying25 rfl szS
      have hl : w.heap.size ≤ w.heap.size + 1 := Nat.le_succ _
      exact ⟨_, _, _, _, _, _, _, _, _, rfl, (Q4.out.rowfar (Nat.lt_succ_self _) _).lower hl, (Q5.out.rowfar (Nat.lt_succ_self _) _).lower hl, (Q6.out.rowfar (Nat.lt_succ_self _) _).lower hl, hx⟩
end
end Go.Proofs.YticggkllfojgkaaGreatDoor
namespace Go.Proofs.YticggkllfojgkaaGreatDoor
open Go Go.RowKit
set_option maxRecDepth 4000

theorem Ext.stored {w0 w w' : World} (h : Ext w0 w) (h' : Ext w w') {g : Nat} (hg : w0.heap.size ≤ g) (cs : Array Value) : Ext w0 (w'.setRow g cs) := (h.trans h').setRow hg cs
set_option maxHeartbeats 4000000 in
theorem up6_any (w : World) : Calls Tryz.prog 6 #[] w fun e w' => e = .returned (.bool true) ∧ Ext w w' := by
  have ee := code_eq 1 1
  have C := Kp.mk (Check_bad (w := (w.alloc (.cells #[.int .u32 15] ut)).alloc (.cells #[.int .u32 3] ut)) ((Nv.lit w 15 15 rfl (by decide) _ rfl).ext (by (repeat (first | assumption | exact Ext.refl _ | apply Ext.drew | apply Ext.drewN | apply Ext.alloc | refine Ext.trans ?_ (by assumption))); first | done | fail)) (Nv.lit (w.alloc (.cells #[.int .u32 15] ut)) 3 3 rfl (by decide) (w.heap.size + 1) (by simp)) (fun h => absurd h.1 (by have := (nb_iff 15 1).2 (by decide); omega)))
  go_enter Tryz.func6, Tryz.ntmps6
  go_wp2_with fail
  refine C.out.mono ?_
  rintro e w1 ⟨rfl, x⟩
  have x1 := Ext.trans (show Ext w _ from (by (repeat (first | assumption | exact Ext.refl _ | apply Ext.drew | apply Ext.drewN | apply Ext.alloc | refine Ext.trans ?_ (by assumption))); first | done | fail)) x
  clear x
  have C2 := Kp.mk (Pair_facp (w := ((w1.alloc (.cells #[.int .u32 2] ut)).alloc (.cells #[.int .u32 7] ut)).alloc (.cells #[.int .u32 3] ut)) ((Nv.lit w1 2 2 rfl (by decide) _ rfl).ext (by (repeat (first | assumption | exact Ext.refl _ | apply Ext.drew | apply Ext.drewN | apply Ext.alloc | refine Ext.trans ?_ (by assumption))); first | done | fail)) ((Nv.lit (w1.alloc (.cells #[.int .u32 2] ut)) 7 7 rfl (by decide) (w1.heap.size + 1) (by simp)).ext (by (repeat (first | assumption | exact Ext.refl _ | apply Ext.drew | apply Ext.drewN | apply Ext.alloc | refine Ext.trans ?_ (by assumption))); first | done | fail))
    (Nv.lit ((w1.alloc (.cells #[.int .u32 2] ut)).alloc (.cells #[.int .u32 7] ut)) 3 3 rfl (by decide) (w1.heap.size + 1 + 1) (by simp)) (short_of (k := 1) (by decide) (by decide)) (short_of (k := 1) (by decide) (by decide)) (short_of (k := 1) (by decide) (by decide)) (fun h => absurd h.lo (by decide)))
  go_wp2_with fail
  refine C2.out.mono ?_
  rintro e w2 ⟨rfl, x⟩
  have x2 := Ext.trans (show Ext w1 _ from (by (repeat (first | assumption | exact Ext.refl _ | apply Ext.drew | apply Ext.drewN | apply Ext.alloc | refine Ext.trans ?_ (by assumption))); first | done | fail)) x
  clear x C C2
  have HZ := Kp.mk (Blk.new w2 25 #[.slice none 0 0, .slice none 0 0, .slice none 0 0])
  have HX := Kp.mk (Ext.setRow (show Ext w (w2.alloc (.cells #[.slice none 0 0, .slice none 0 0, .slice none 0 0] 25)) from (by (repeat (first | assumption | exact Ext.refl _ | apply Ext.drew | apply Ext.drewN | apply Ext.alloc | refine Ext.trans ?_ (by assumption))); first | done | fail)) (show w.heap.size ≤ w2.heap.size from (x1.trans x2).size) #[.slice none 0 0, .slice none 0 0, .slice none 0 0])
  clear x1 x2
  go_wp2_with (first | ((with_reducible refine at_store 2 13 ?_); refine wpList_store_row rfl 25 _ _ rfl w2.heap.size #[.slice none 0 0, .slice none 0 0, .slice none 0 0] rfl rfl 25 _ HZ.out.h szS rfl (one_three _ _ _ _ _ _ _ _ _) ?_) | fail)
  go_ret
  exact ⟨rfl, HX.out⟩
section
variable {A B D : Option Addr} {n c m d k f vp vq ve : Nat} {w : World}
theorem light_cases6 (n m k : Nat) : (n ≤ 70 ∧ m ≤ 70 ∧ k ≤ 70) ∨ (¬ (n ≤ 70 ∧ m ≤ 70 ∧ k ≤ 70) ∧ ¬ n ≤ 70) ∨ (¬ (n ≤ 70 ∧ m ≤ 70 ∧ k ≤ 70) ∧ n ≤ 70 ∧ ¬ m ≤ 70) ∨ (¬ (n ≤ 70 ∧ m ≤ 70 ∧ k ≤ 70) ∧ n ≤ 70 ∧ m ≤ 70 ∧ ¬ k ≤ 70) := by omega
set_option maxHeartbeats 1000000 in
theorem light6_any (b : Bool) (hb : b = true ↔ n ≤ 70 ∧ m ≤ 70 ∧ k ≤ 70) : Calls Tryz.prog 7 #[.agg #[.slice A n c, .slice B m d, .slice D k f]] w fun e w' => e = .returned (.bool b) ∧ Ext w w' := by
  rcases light_cases6 n m k with ⟨h1, h2, h3⟩ | ⟨h, h1⟩ | ⟨h, h1, h2⟩ | ⟨h, h1, h2, h3⟩
  · obtain rfl : b = true := hb.2 ⟨h1, h2, h3⟩
    have d1 : (n : Int) ≤ 70 := by omega
    have d2 : (m : Int) ≤ 70 := by omega
    have d3 : (k : Int) ≤ 70 := by omega
    clear hb 
    go_enter Tryz.func7, Tryz.ntmps7
    go_wp2_with fail
    go_ret
    exact ⟨rfl, (by (repeat (first | assumption | exact Ext.refl _ | apply Ext.drew | apply Ext.drewN | apply Ext.alloc | refine Ext.trans ?_ (by assumption))); first | done | fail)⟩
  · obtain rfl : b = false := bool_no hb h
    have d1 : decide ((n : Int) ≤ 70) = false := decide_eq_false (by omega)
    have e1 : decide (n ≤ 70) = false := decide_eq_false (by omega)
    clear hb h h1
    go_enter Tryz.func7, Tryz.ntmps7
    go_wp2_with fail
    go_ret
    exact ⟨rfl, (by (repeat (first | assumption | exact Ext.refl _ | apply Ext.drew | apply Ext.drewN | apply Ext.alloc | refine Ext.trans ?_ (by assumption))); first | done | fail)⟩
  · obtain rfl : b = false := bool_no hb h
    have d1 : (n : Int) ≤ 70 := by omega
    have d2 : decide ((m : Int) ≤ 70) = false := decide_eq_false (by omega)
    have e2 : decide (m ≤ 70) = false := decide_eq_false (by omega)
    clear hb h h2
    go_enter Tryz.func7, Tryz.ntmps7
    go_wp2_with fail
    go_ret
    exact ⟨rfl, (by (repeat (first | assumption | exact Ext.refl _ | apply Ext.drew | apply Ext.drewN | apply Ext.alloc | refine Ext.trans ?_ (by assumption))); first | done | fail)⟩
  · obtain rfl : b = false := bool_no hb h
    have d1 : (n : Int) ≤ 70 := by omega
    have d2 : (m : Int) ≤ 70 := by omega
    have d3 : decide ((k : Int) ≤ 70) = false := decide_eq_false (by omega)
    have e3 : decide (k ≤ 70) = false := decide_eq_false (by omega)
    clear hb h h3
    go_enter Tryz.func7, Tryz.ntmps7
    go_wp2_with fail
    go_ret
    exact ⟨rfl, (by (repeat (first | assumption | exact Ext.refl _ | apply Ext.drew | apply Ext.drewN | apply Ext.alloc | refine Ext.trans ?_ (by assumption))); first | done | fail)⟩
theorem public6_any : Calls Tryz.prog 16 #[.agg #[.slice A n c, .slice B m d, .slice D k f]] w fun e w' => e = .returned (.agg #[.slice A n c, .slice B m d]) ∧ Ext w w' := by
  have HZ := Kp.mk (Blk.new (w.alloc (.cells #[.slice A n c, .slice B m d, .slice D k f] 25)) 40 #[.slice none 0 0, .slice none 0 0])
  have HX := Kp.mk (Ext.setRow (show Ext w ((w.alloc (.cells #[.slice A n c, .slice B m d, .slice D k f] 25)).alloc (.cells #[.slice none 0 0, .slice none 0 0] 40)) from (by (repeat (first | assumption | exact Ext.refl _ | apply Ext.drew | apply Ext.drewN | apply Ext.alloc | refine Ext.trans ?_ (by assumption))); first | done | fail)) (show w.heap.size ≤ (w.alloc (.cells #[.slice A n c, .slice B m d, .slice D k f] 25)).heap.size by simp) #[.slice A n c, .slice B m d])
  have hsz : (w.alloc (.cells #[.slice A n c, .slice B m d, .slice D k f] 25)).heap.size = w.heap.size + 1 := by simp
  rw [hsz] at HZ HX
  go_enter Tryz.func16, Tryz.ntmps16
  go_wp2_with (first | ((with_reducible refine at_store 2 7 ?_); refine wpList_store_row rfl 40 _ _ rfl (w.heap.size + 1) #[.slice A n c, .slice B m d] rfl rfl 40 _ HZ.out.h szP2 rfl (one_two _ _ _ _ _ _) ?_) | fail)
  refine bodyPost_ret (v := .agg #[.slice A n c, .slice B m d]) ?_ rfl ⟨rfl, HX.out⟩
  exact results_cell_row rfl _ _ (w.heap.size + 1) 40 _ (0, 0) _ rfl (HZ.out.row _).h Tryz.underlying40 rfl szP2
theorem cut6_any {l : List (BitVec 8)} (h : Bs w A n c l) (z : Int) (hz : z = 300) : Calls Tryz.prog 8 #[.slice A n c, .int .i64 z] w fun e w' => e = .returned (.slice A (min n 300) c) ∧ Bs w' A (min n 300) c (l.take (min n 300)) ∧ w' = w := by
  subst hz
  have hcap := h.cap
  have HT := Kp.mk (h.take (min n 300) (Nat.min_le_left _ _))
  by_cases hn : n ≤ 300
  · have e : min n 300 = n := by omega
    have d1 : decide ((300 : Int) < (n : Int)) = false := decide_eq_false (by omega)
    have d2 : decide (300 < n) = false := decide_eq_false (by omega)
    rw [e] at HT ⊢
    clear h hn e
    go_enter Tryz.func8, Tryz.ntmps8
    go_wp2_with fail
    go_ret
    exact ⟨rfl, HT.out, rfl⟩
  · have e : min n 300 = 300 := by omega
    have d1 : (300 : Int) < (n : Int) := by omega
    have hs := fun W => run_upto (P := Tryz.prog) A n c 26 5 Tryz.underlying26 szB 300 300 rfl (by omega) W
    rw [e] at HT ⊢
    clear h hn e
    go_enter Tryz.func8, Tryz.ntmps8
    go_wp2_with fail
    go_ret
    exact ⟨rfl, HT.out, rfl⟩
end
end Go.Proofs.YticggkllfojgkaaGreatDoor
namespace Go.Proofs.YticggkllfojgkaaGreatDoor
open Go Go.ChangeShapes Go.WideShapes Go.ChangeAt Go.RowKit Go.Joins Go.Deep Go.WideElems Go.Maps
set_option maxRecDepth 4000

section
variable {H : Type} {enc : TypeId × Value → H} {P : Program} {w : World} {held : Bool}
/-- a field that is a slice of limbs -/
theorem open_nat_at {t e fuel : Nat} {v : Value} {x : DataW H × List MemPlace} (ht : P.underlying t = some (.slice e)) (he : P.underlying e = some (.int .u32)) (hce : P.cellsOf e = 1)
    (hf : DataW.trod enc P w 0 (fun _ => true) held fuel t [v] = some x) : ∃ A n c l, v = .slice A n c ∧ Rd vL w A n c l ∧ Dg BB l ∧ c ≤ maxLen := by
  rcases open_ints ht he hce hf with ⟨hcs, _⟩ | ⟨a, len, cap, zs, hcs, _, hl, hm, hz, _, hcell, hwz⟩
  · obtain rfl : v = .slice none 0 0 := by simpa using hcs
    exact ⟨none, 0, 0, [], rfl, Rd.nil _, Dg.nil _, Nat.zero_le _⟩
  · obtain rfl : v = .slice (some a) len cap := by simpa using hcs
    simp only [if_true] at hz
    refine ⟨some a, len, cap, (zs.map Int.toNat).take len, rfl, ⟨by rw [List.length_take, List.length_map]; omega, hl, (fun e => by cases e), fun hn => ?_⟩, fun x hx => ?_, hm⟩
    · obtain ⟨b, off, rfl, hc⟩ := ints_at hcell (by omega)
      refine ⟨b, off, rfl, fun j x hj => ?_⟩
      have hjn : j < len := by have := (List.getElem?_eq_some_iff.1 hj).1; rw [List.length_take] at this; omega
      rw [hc j (by omega)]
      rw [List.getElem?_take, if_pos hjn, List.getElem?_map, List.getElem?_eq_getElem (by omega)] at hj
      have hb := bounds_u32 (hwz zs[j] (List.getElem_mem (by omega)))
      cases hj
      simp only [List.getD_eq_getElem?_getD, List.getElem?_eq_getElem (show j < zs.length by omega), Option.getD_some, vL]
      congr 2
      omega
    · obtain ⟨y, hy, rfl⟩ := List.mem_map.1 (List.mem_of_mem_take hx)
      have hb := bounds_u32 (hwz y hy)
      show y.toNat < 4294967296
      omega
/-- a number of a key -/
structure Nk (w : World) (A : Option Addr) (n c : Nat) (l : List Nat) : Prop where
  r : Rd vL w A n c l
  d : Dg BB l
theorem Nk.ext {w w' : World} {A : Option Addr} {n c : Nat} {l : List Nat} (h : Nk w A n c l) (hx : Ext w w') : Nk w' A n c l := ⟨h.r.ext hx, h.d⟩
theorem open_public {t e base' : Nat} {f0 f1 : Field} {v : Value} {d : DataW H} {p : List MemPlace} (hs : P.underlying t = some (.struct #[f0, f1])) (hone : oneCellFields P #[f0, f1] = true) (hC : P.cellsOf t = 2)
    (h0 : P.underlying f0.type = some (.slice e)) (h1 : P.underlying f1.type = some (.slice e)) (he : P.underlying e = some (.int .u32)) (hce : P.cellsOf e = 1)
    (hv : Value.okWide P w .any base' t v) (h : DataW.Trod enc P w 0 (fun _ => true) held t v d p) :
    ∃ A0 n0 c0 l0 A1 n1 c1 l1, v = .agg #[.slice A0 n0 c0, .slice A1 n1 c1] ∧ Nk w A0 n0 c0 l0 ∧ Nk w A1 n1 c1 l1 := by
  obtain ⟨v0, v1, y0, y1, n, rfl, _, _, r0, r1⟩ := open_agg2 hs hone hC hv h
  obtain ⟨A0, n0, c0, l0, rfl, a0, b0, _⟩ := open_nat_at h0 he hce r0
  obtain ⟨A1, n1, c1, l1, rfl, a1, b1, _⟩ := open_nat_at h1 he hce r1
  exact ⟨A0, n0, c0, l0, A1, n1, c1, l1, rfl, ⟨a0, b0⟩, ⟨a1, b1⟩⟩
theorem open_secret {t e base' : Nat} {f0 f1 f2 : Field} {v : Value} {d : DataW H} {p : List MemPlace} (hs : P.underlying t = some (.struct #[f0, f1, f2])) (hone : oneCellFields P #[f0, f1, f2] = true) (hC : P.cellsOf t = 3)
    (h0 : P.underlying f0.type = some (.slice e)) (h1 : P.underlying f1.type = some (.slice e)) (h2 : P.underlying f2.type = some (.slice e)) (he : P.underlying e = some (.int .u32)) (hce : P.cellsOf e = 1)
    (hv : Value.okWide P w .any base' t v) (h : DataW.Trod enc P w 0 (fun _ => true) held t v d p) :
    ∃ A0 n0 c0 l0 A1 n1 c1 l1 A2 n2 c2 l2, v = .agg #[.slice A0 n0 c0, .slice A1 n1 c1, .slice A2 n2 c2] ∧ Nk w A0 n0 c0 l0 ∧ Nk w A1 n1 c1 l1 ∧ Nk w A2 n2 c2 l2 := by
  obtain ⟨v0, v1, v2, y0, y1, y2, n, rfl, _, _, r0, r1, r2⟩ := open_agg3 hs hone hC hv h
  obtain ⟨A0, n0, c0, l0, rfl, a0, b0, _⟩ := open_nat_at h0 he hce r0
  obtain ⟨A1, n1, c1, l1, rfl, a1, b1, _⟩ := open_nat_at h1 he hce r1
  obtain ⟨A2, n2, c2, l2, rfl, a2, b2, _⟩ := open_nat_at h2 he hce r2
  exact ⟨A0, n0, c0, l0, A1, n1, c1, l1, A2, n2, c2, l2, rfl, ⟨a0, b0⟩, ⟨a1, b1⟩, ⟨a2, b2⟩⟩
end
end Go.Proofs.YticggkllfojgkaaGreatDoor
