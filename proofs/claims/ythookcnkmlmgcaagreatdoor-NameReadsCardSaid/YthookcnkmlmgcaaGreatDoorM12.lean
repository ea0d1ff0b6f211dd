/-
  tlv: elementOf; an error's number.
  tlv: elementOf, where an element begins; pieces of a slice.
  Slices of slices of bytes of the call's own: the rows lie in blocks of their own.
  tlv's reader: what it holds, what stays of it; NewReader, Next, End, Leave.
-/
import Derived.Test.YthookcnkmlmgcaaGreatDoorM11
import Derived.Test.YthookcnkmlmgcaaGreatDoorM4
namespace Go.Proofs.YthookcnkmlmgcaaGreatDoor
open Go Go.RowKit
set_option maxRecDepth 4000

abbrev elt : TypeId := 77
theorem szEl : (Tryz.prog.info? elt).map (·.size) = some 3 := by kernel_rfl
/-- what elementOf tells where none begins -/
def ElN (w : World) (k : Int) (e : Ending) (w' : World) : Prop := e = .returned (.tuple #[.agg #[.slice none 0 0, .slice none 0 0, .slice none 0 0], err k]) ∧ Ext w w'
theorem results_el {fn : Func} {p u : Tmp} (h : fn.results = #[.cell p elt, .tmp u]) (tmps : Array Value) (w : World) (g : Nat) (a b d v : Value)
    (hp : tmps.getD p undef = .pointer (some ⟨g, 0, none⟩)) (hv : tmps.getD u undef = v) (hg : Blk w g elt #[a, b, d]) :
    (results fn tmps).run Tryz.prog w = .ok (.tuple #[.agg #[a, b, d], v]) w :=
  results_cell_row2 h tmps w g elt #[a, b, d] v _ hp hv hg Tryz.underlying77 rfl szEl
set_option maxHeartbeats 1000000 in
theorem elementOf_none {A : Option Addr} {c : Nat} {w : World} : Calls Tryz.prog 49 #[.slice A 0 c] w (ElN w 13) := by
  have HB := Kp.mk (Blk.new w elt #[.slice none 0 0, .slice none 0 0, .slice none 0 0])
  have HX := Kp.mk (Ext.setRow ((by (repeat (first | assumption | exact Ext.refl _ | apply Ext.drew | apply Ext.drewN | apply Ext.alloc | refine Ext.trans ?_ (by assumption))); first | done | fail) : Ext w (w.alloc (.cells #[.slice none 0 0, .slice none 0 0, .slice none 0 0] elt))) (Nat.le_refl _) #[.slice none 0 0, .slice none 0 0, .slice none 0 0])
  go_enter Tryz.func49, Tryz.ntmps49
  go_wp2_with (first | ((with_reducible refine at_store 2 11 ?_); refine wpList_store_row rfl elt _ _ rfl w.heap.size #[.slice none 0 0, .slice none 0 0, .slice none 0 0] rfl rfl elt _ HB.out.h szEl rfl (one_three _ _ _ _ _ _ _ _ _) ?_) | fail)
  refine bodyPost_ret (results_el rfl _ _ w.heap.size _ _ _ _ rfl rfl (HB.out.row _)) rfl ?_
  exact ⟨rfl, HX.out⟩
/-- where no element begins -/
theorem el_no {b : List (BitVec 8)} (h : ¬ ∃ m x r, El b m x r) (hm : mkB (gb b 0) = true) : b.take (hdn (lnOf b)) ≠ hdr (gb b 0) (lnOf b) ∨ (b.take (hdn (lnOf b)) = hdr (gb b 0) (lnOf b) ∧ b.length < hdn (lnOf b) + lnOf b) := by
  by_cases hp : b.take (hdn (lnOf b)) = hdr (gb b 0) (lnOf b)
  · by_cases hr : hdn (lnOf b) + lnOf b ≤ b.length
    · exact absurd ⟨_, _, _, el_of hm (lnOf_hi b) hp hr⟩ h
    · exact .inr ⟨hp, by omega⟩
  · exact .inl hp
set_option maxHeartbeats 4000000 in
theorem elementOf_form {b : List (BitVec 8)} {A : Option Addr} {n c : Nat} {w : World} (hb : Bs w A n c b) (hn : 0 < n) (hn2 : n ≤ 1000000000000) (h : ¬ ∃ m x r, El b m x r) : Calls Tryz.prog 49 #[.slice A n c] w (ElN w 2) := by
  have hl := hb.len
  have hx0 : Ext w (w.alloc (.cells #[.slice none 0 0, .slice none 0 0, .slice none 0 0] elt)) := (by (repeat (first | assumption | exact Ext.refl _ | apply Ext.drew | apply Ext.drewN | apply Ext.alloc | refine Ext.trans ?_ (by assumption))); first | done | fail)
  have hB0 := Blk.new w elt #[.slice none 0 0, .slice none 0 0, .slice none 0 0]
  have b0 : ((n : Int) == 0) = false := beq_eq_false_iff_ne.2 (by omega)
  have b0' : ¬ n = 0 := by omega
  have b1 : 0 < (n : Int) := by omega
  obtain ⟨g, o, rfl, hc⟩ := hb.s.2.2.2 hn
  have k0 : ∀ (w' : World), Ext w w' → w'.cell? ⟨g, o, none⟩ = some (.int .u8 (ub (gb b 0))) := fun w' hx => by
    obtain ⟨g', o', e, hc'⟩ := (hb.ext hx).s.2.2.2 hn
    cases e
    have h1 := hc' 0 hn
    rwa [Nat.add_zero] at h1
  have LO := Kp.mk (lengthOf_any (hb.ext hx0))
  have HB0 := Kp.mk hB0
  have HX0 := Kp.mk hx0
  have hk0 := k0 _ hx0
  have HBB := Kp.mk hb
  cases hm : mkB (gb b 0) with
  | false =>
    have C := Kp.mk (fun u => Head_arg (gb b 0) ((lnOf b : Nat) : Int) (.inl hm) u)
    generalize gb b 0 = x0 at *
    generalize lnOf b = N at *
    clear h hl hb hc hB0 hx0 hm
    go_enter Tryz.func49, Tryz.ntmps49
    go_wp2_with (first | (go_at_call 62; refine LO.out.mono ?_; rintro e w1 ⟨rfl, hx1⟩; have HX1 := Kp.mk (HX0.out.trans hx1); have k01 := k0 w1 HX1.out; have HB1 := Kp.mk (HB0.out.ext hx1); clear hx1) | (go_at_call 57; refine (C.out _).mono ?_; rintro e w2 ⟨rfl, hx2⟩; have HX2 := Kp.mk (HX1.out.trans hx2); have HB2 := Kp.mk (HB1.out.ext hx2); clear hx2) | ((with_reducible refine at_store 2 40 ?_); refine wpList_store_row rfl elt _ _ rfl w.heap.size #[.slice none 0 0, .slice none 0 0, .slice none 0 0] rfl rfl elt _ HB2.out.h szEl rfl (one_three _ _ _ _ _ _ _ _ _) ?_) | fail)
    refine bodyPost_ret (results_el rfl _ _ w.heap.size _ _ _ _ rfl rfl (HB2.out.row _)) rfl ?_
    exact ⟨rfl, HX2.out.setRow (Nat.le_refl _) _⟩
  | true =>
    have hhi := hdn_hi (lnOf b)
    have hlo := hdn_lo (lnOf b)
    have C := Kp.mk (fun u => Head_ok (gb b 0) (lnOf b) (lnOf_hi b) hm u)
    rcases el_no h hm with hp | ⟨hp, hr⟩
    · have HP := Kp.mk hp
      obtain ⟨D, hD⟩ : ∃ D, hdr (gb b 0) (lnOf b) = D := ⟨_, rfl⟩
      obtain ⟨k, hk⟩ : ∃ k, hdn (lnOf b) = k := ⟨_, rfl⟩
      rw [hD, hk] at C HP
      rw [hk] at hhi hlo
      generalize gb b 0 = x0 at *
      generalize lnOf b = N at *
      have HK : Kp (k ≤ 4611686018427387904) := ⟨by omega⟩
      have HN : Kp (n ≤ 4611686018427387904) := ⟨by omega⟩
      clear h hl hb hc hB0 hx0 hm hhi hlo hp hn2
      go_enter Tryz.func49, Tryz.ntmps49
      go_wp2_with (first | (go_at_call 62; refine LO.out.mono ?_; rintro e w1 ⟨rfl, hx1⟩; have HX1 := Kp.mk (HX0.out.trans hx1); have k01 := k0 w1 HX1.out; have HB1 := Kp.mk (HB0.out.ext hx1); clear hx1) | (go_at_call 57; refine (C.out _).mono ?_; rintro e w2 ⟨A2, c2, rfl, hs2, ho2, hx2⟩; have HX2 := Kp.mk (HX1.out.trans hx2); have HB2 := Kp.mk (HB1.out.ext hx2); have HS2 := Kp.mk hs2; clear hx2 hs2 ho2) | (go_at_call 63; refine (HasPrefix_any (HBB.out.ext HX2.out) HS2.out HN.out HK.out false (by simp [HP.out])).mono ?_; rintro e w3 ⟨rfl, rfl⟩) | ((with_reducible refine at_store 2 40 ?_); refine wpList_store_row rfl elt _ _ rfl w.heap.size #[.slice none 0 0, .slice none 0 0, .slice none 0 0] rfl rfl elt _ HB2.out.h szEl rfl (one_three _ _ _ _ _ _ _ _ _) ?_) | fail)
      refine bodyPost_ret (results_el rfl _ _ w.heap.size _ _ _ _ rfl rfl (HB2.out.row _)) rfl ?_
      exact ⟨rfl, HX2.out.setRow (Nat.le_refl _) _⟩
    · have HP := Kp.mk hp
      have hnl := lnOf_hi b
      have hkn : hdn (lnOf b) ≤ b.length := by
        have := congrArg List.length hp
        rw [List.length_take, hdr_len] at this
        omega
      obtain ⟨D, hD⟩ : ∃ D, hdr (gb b 0) (lnOf b) = D := ⟨_, rfl⟩
      obtain ⟨k, hk⟩ : ∃ k, hdn (lnOf b) = k := ⟨_, rfl⟩
      rw [hD, hk] at C HP
      rw [hk] at hhi hlo hr hkn
      rw [hl] at hr hkn
      generalize gb b 0 = x0 at *
      generalize lnOf b = N at *
      have HK : Kp (k ≤ 4611686018427387904) := ⟨by omega⟩
      have HN : Kp (n ≤ 4611686018427387904) := ⟨by omega⟩
      obtain ⟨z, hz⟩ : ∃ z : Nat, n - k = z := ⟨_, rfl⟩
      have b2 : IntKind.i64.wrap ((n : Int) - (k : Int)) = (z : Int) := by rw [IntKind.wrap_i64]; omega
      have b3 : (z : Int) < (N : Int) := by omega
      clear h hl hb hc hB0 hx0 hm hhi hlo hp hn2 hr hkn hz hnl
      go_enter Tryz.func49, Tryz.ntmps49
      go_wp2_with (first | (go_at_call 62; refine LO.out.mono ?_; rintro e w1 ⟨rfl, hx1⟩; have HX1 := Kp.mk (HX0.out.trans hx1); have k01 := k0 w1 HX1.out; have HB1 := Kp.mk (HB0.out.ext hx1); clear hx1) | (go_at_call 57; refine (C.out _).mono ?_; rintro e w2 ⟨A2, c2, rfl, hs2, ho2, hx2⟩; have HX2 := Kp.mk (HX1.out.trans hx2); have HB2 := Kp.mk (HB1.out.ext hx2); have HS2 := Kp.mk hs2; clear hx2 hs2 ho2) | (go_at_call 63; refine (HasPrefix_any (HBB.out.ext HX2.out) HS2.out HN.out HK.out true (by simp [HP.out])).mono ?_; rintro e w3 ⟨rfl, rfl⟩) | ((with_reducible refine at_store 2 40 ?_); refine wpList_store_row rfl elt _ _ rfl w.heap.size #[.slice none 0 0, .slice none 0 0, .slice none 0 0] rfl rfl elt _ HB2.out.h szEl rfl (one_three _ _ _ _ _ _ _ _ _) ?_) | fail)
      refine bodyPost_ret (results_el rfl _ _ w.heap.size _ _ _ _ rfl rfl (HB2.out.row _)) rfl ?_
      exact ⟨rfl, HX2.out.setRow (Nat.le_refl _) _⟩
end Go.Proofs.YthookcnkmlmgcaaGreatDoor
namespace Go.Proofs.YthookcnkmlmgcaaGreatDoor
open Go Go.RowKit
set_option maxRecDepth 4000

/-- a slice's cells lie in these blocks -/
def In (A : Option Addr) (n : Nat) (ds : List Nat) : Prop := ∀ ad, 0 < n → A = some ad → ad.block ∈ ds
theorem In.none (n : Nat) (ds : List Nat) : In Option.none n ds := fun _ _ h => by cases h
theorem In.zero (A : Option Addr) (ds : List Nat) : In A 0 ds := fun _ h => absurd h (Nat.lt_irrefl 0)
theorem In.off {A : Option Addr} {n : Nat} {ds G : List Nat} (h : In A n ds) (ha : Ap ds G) : Off A n G := fun ad hn e => ha _ (h ad hn e)
theorem In.less {A : Option Addr} {n m : Nat} {ds : List Nat} (h : In A n ds) (hm : 0 < m → 0 < n) : In A m ds := fun ad hn e => h ad (hm hn) e
theorem In.sub {A : Option Addr} {n m c k : Nat} {ds : List Nat} (h : In A n ds) (hm : 0 < m → 0 < n) : In (if c = k then A else A.map (·.add k)) m ds := fun ad hn e => by
  cases A with
  | none => split at e <;> simp at e
  | some a =>
    have h1 := h a (hm hn) rfl
    split at e
    · cases e; exact h1
    · simp only [Option.map_some, Option.some.injEq] at e
      rw [← e]
      unfold Addr.add
      split <;> exact h1
/-- s[i:j] -/
theorem run_midA {P : Program} (A : Option Addr) (n c t e : Nat) (ht : P.underlying t = some (.slice e)) (hs : (P.info? e).map (·.size) = some 1) (i j : Nat) (x y : Int) (hx : x = (i : Int)) (hy : y = (j : Int)) (hij : i ≤ j) (hj : j ≤ c) (w : World) :
    (Instr.sliceAt t (.slice A n c) (some (.int .i64 x)) (some (.int .i64 y)) none).run P w = .ok (.slice (if c = i then A else A.map (·.add i)) (j - i) (c - i)) w := by
  subst hx hy
  cases hq : P.info? e with
  | none => simp [hq] at hs
  | some i' =>
    have hs1 : i'.size = 1 := by simpa [hq] using hs
    simp [Instr.sliceAt, Instr.slice, run_underlying ht, Instr.sliceBounds, Instr.sliceBound, asIntOf, sizeOf, typeInfo, hq, hs1, hij, hj]
/-- what elementOf tells of an element -/
def ElR (w : World) (ds : List Nat) (m : BitVec 8) (x r : List (BitVec 8)) (e : Ending) (w' : World) : Prop :=
  ∃ A1 n1 c1 A2 n2 c2 A3 n3 c3, e = .returned (.tuple #[.agg #[.slice A1 n1 c1, .slice A2 n2 c2, .slice A3 n3 c3], .nilIface]) ∧
    Bs w' A1 n1 c1 (elm m x) ∧ Bs w' A2 n2 c2 x ∧ Bs w' A3 n3 c3 r ∧ In A1 n1 ds ∧ In A2 n2 ds ∧ In A3 n3 ds ∧ Ext w w'
set_option maxHeartbeats 8000000 in
theorem elementOf_ok {b x r : List (BitVec 8)} {m : BitVec 8} {A : Option Addr} {n c : Nat} {w : World} {ds : List Nat} (hb : Bs w A n c b) (hi : In A n ds) (hn2 : n ≤ 1000000000000) (h : El b m x r) : Calls Tryz.prog 49 #[.slice A n c] w (ElR w ds m x r) := by
  have hl := hb.len
  obtain ⟨p1, p2, p3, p4, p5, p6⟩ := el_parts h
  have hlo := hdn_lo x.length
  have hhi := hdn_hi x.length
  have hcap := hb.cap
  have hn : 0 < n := by omega
  have hx0 : Ext w (w.alloc (.cells #[.slice none 0 0, .slice none 0 0, .slice none 0 0] elt)) := (by (repeat (first | assumption | exact Ext.refl _ | apply Ext.drew | apply Ext.drewN | apply Ext.alloc | refine Ext.trans ?_ (by assumption))); first | done | fail)
  have hB0 := Blk.new w elt #[.slice none 0 0, .slice none 0 0, .slice none 0 0]
  have b0 : ((n : Int) == 0) = false := beq_eq_false_iff_ne.2 (by omega)
  have b0' : ¬ n = 0 := by omega
  have b1 : 0 < (n : Int) := by omega
  have k0 : ∃ g o, A = some ⟨g, o, none⟩ ∧ ∀ (w' : World), Ext w w' → w'.cell? ⟨g, o, none⟩ = some (.int .u8 (ub m)) := by
    obtain ⟨g, o, e, hc⟩ := hb.s.2.2.2 hn
    refine ⟨g, o, e, fun w' hx => ?_⟩
    obtain ⟨g', o', e', hc'⟩ := (hb.ext hx).s.2.2.2 hn
    rw [e] at e'
    cases e'
    have h1 := hc' 0 hn
    rwa [Nat.add_zero, p1] at h1
  have LO := Kp.mk (lengthOf_any (hb.ext hx0))
  rw [lnOf_el h] at LO
  have C := Kp.mk (fun u => Head_ok m x.length h.2.1 h.1 u)
  have HP : Kp (b.take (hdn x.length) = hdr m x.length) := ⟨p2⟩
  obtain ⟨D, hD⟩ : ∃ D, hdr m x.length = D := ⟨_, rfl⟩
  obtain ⟨k, hk⟩ : ∃ k, hdn x.length = k := ⟨_, rfl⟩
  obtain ⟨N, hN⟩ : ∃ N, x.length = N := ⟨_, rfl⟩
  obtain ⟨T, hT⟩ : ∃ T, k + N = T := ⟨_, rfl⟩
  have p7 : (b.take T).drop k = x := by
    rw [List.drop_take, ← hT, show k + N - k = N by omega, ← hk, ← hN]
    exact p5
  rw [hD, hk] at C HP
  rw [hN] at C LO p3 p4 p5 p6
  rw [show hdn N = k by rw [← hN, hk]] at p3 p4 p5 p6
  rw [hk] at hlo hhi
  rw [hT] at p4 p6
  have hTn : T ≤ n := by omega
  have hs1 := fun W => run_upto (P := Tryz.prog) A n c 22 5 Tryz.underlying22 szB T (T : Int) rfl (by omega) W
  have hs2 := fun W => run_midA (P := Tryz.prog) A n c 22 5 Tryz.underlying22 szB k T (k : Int) (T : Int) rfl rfl (by omega) (by omega) W
  have hs3 := fun W => run_from (P := Tryz.prog) A n c 22 5 Tryz.underlying22 szB T (T : Int) rfl (by omega) W
  have R1 := Kp.mk (hb.take T hTn)
  have R2 := Kp.mk ((hb.take T hTn).drop k (by omega))
  have R3 := Kp.mk (hb.drop T hTn)
  rw [p4] at R1
  rw [p7] at R2
  rw [p6] at R3
  have I1 := Kp.mk (hi.less (m := T) (fun _ => hn))
  have I2 := Kp.mk (hi.sub (m := T - k) (c := c) (k := k) (fun _ => hn))
  have I3 := Kp.mk (hi.sub (m := n - T) (c := c) (k := T) (fun _ => hn))
  obtain ⟨A2, hA2⟩ : ∃ A2, (if c = k then A else A.map (·.add k)) = A2 := ⟨_, rfl⟩
  obtain ⟨A3, hA3⟩ : ∃ A3, (if c = T then A else A.map (·.add T)) = A3 := ⟨_, rfl⟩
  rw [hA2] at R2 I2
  rw [hA3] at R3 I3
  simp only [hA2] at hs2
  simp only [hA3] at hs3
  obtain ⟨n2, hn2'⟩ : ∃ n2, T - k = n2 := ⟨_, rfl⟩
  obtain ⟨n3, hn3⟩ : ∃ n3, n - T = n3 := ⟨_, rfl⟩
  obtain ⟨c2, hc2⟩ : ∃ c2, c - k = c2 := ⟨_, rfl⟩
  obtain ⟨c3, hc3⟩ : ∃ c3, c - T = c3 := ⟨_, rfl⟩
  rw [hn2', hc2] at R2
  rw [hn2'] at I2
  rw [hn3, hc3] at R3
  rw [hn3] at I3
  simp only [hn2', hc2] at hs2
  simp only [hn3, hc3] at hs3
  obtain ⟨z, hz⟩ : ∃ z : Nat, n - k = z := ⟨_, rfl⟩
  have b2 : IntKind.i64.wrap ((n : Int) - (k : Int)) = (z : Int) := by rw [IntKind.wrap_i64]; omega
  have b3 : decide ((z : Int) < (N : Int)) = false := decide_eq_false (by omega)
  have b3' : decide (z < N) = false := decide_eq_false (by omega)
  have b3'' : ¬ z < N := by omega
  have b4 : IntKind.i64.wrap ((k : Int) + (N : Int)) = (T : Int) := by rw [IntKind.wrap_i64]; omega
  have HK : Kp (k ≤ 4611686018427387904) := ⟨by omega⟩
  have HN : Kp (n ≤ 4611686018427387904) := ⟨by omega⟩
  have HB0 := Kp.mk hB0
  have HX0 := Kp.mk hx0
  have HBB := Kp.mk hb
  obtain ⟨g, o, rfl, k0⟩ := k0
  have hk0 := k0 _ hx0
  clear h hl hb hi hB0 hx0 hhi hlo hcap hn hn2 p1 p2 p3 p4 p5 p6 p7 hD hk hN hT hTn hA2 hA3 hn2' hn3 hc2 hc3 hz
  go_enter Tryz.func49, Tryz.ntmps49
  go_wp2_with (first | (go_at_call 62; refine LO.out.mono ?_; rintro e w1 ⟨rfl, hx1⟩; have HX1 := Kp.mk (HX0.out.trans hx1); have k01 := k0 w1 HX1.out; have HB1 := Kp.mk (HB0.out.ext hx1); clear hx1) | (go_at_call 57; refine (C.out _).mono ?_; rintro e w2 ⟨A5, c5, rfl, hs5, ho5, hx5⟩; have HX2 := Kp.mk (HX1.out.trans hx5); have HB2 := Kp.mk (HB1.out.ext hx5); have HS2 := Kp.mk hs5; clear hx5 hs5 ho5) | (go_at_call 63; refine (HasPrefix_any (HBB.out.ext HX2.out) HS2.out HN.out HK.out true (by simp [HP.out])).mono ?_; rintro e w3 ⟨rfl, rfl⟩) | fail)
  refine wp_region_held_drew (S := fun _ => True) (by kernel_rfl) trivial (fun hHeld => ?_)
  refine wpAnyH_take (i := 0) (oi := ⟨some 46, _, _, _, _, _⟩) (v := ?_) rfl (by kernel_rfl) (by kernel_rfl) (by kernel_rfl) (fun _ _ _ h => h) (Or.inl ⟨by rfl, ?_⟩) (by assumption) ?_
  rotate_left
  · (intro w hSw; (try dsimp only at hSw); go_simp; try with_reducible rfl)
  try simp only [Act.put, List.setIfInBounds_toArray, List.set_cons_zero, List.set_cons_succ]
  refine wpAnyH_take (i := 1) (oi := ⟨some 47, _, _, _, _, _⟩) (v := ?_) rfl (by kernel_rfl) (by kernel_rfl) (by kernel_rfl) (fun _ _ _ h => h) (Or.inl ⟨by rfl, ?_⟩) (by assumption) ?_
  rotate_left
  · (intro w hSw; (try dsimp only at hSw); go_simp; try with_reducible rfl)
  try simp only [Act.put, List.setIfInBounds_toArray, List.set_cons_zero, List.set_cons_succ]
  refine wpAnyH_take (i := 2) (oi := ⟨some 48, _, _, _, _, _⟩) (v := ?_) rfl (by kernel_rfl) (by kernel_rfl) (by kernel_rfl) (fun _ _ _ h => h) (Or.inl ⟨by rfl, ?_⟩) (by assumption) ?_
  rotate_left
  · (intro w hSw; (try dsimp only at hSw); go_simp; try with_reducible rfl)
  try simp only [Act.put, List.setIfInBounds_toArray, List.set_cons_zero, List.set_cons_succ]
  refine wpAnyH_take (i := 3) (oi := ⟨some 49, _, _, _, _, _⟩) (v := ?_) rfl (by kernel_rfl) (by kernel_rfl) (by kernel_rfl) (fun _ _ _ h => h) (Or.inl ⟨by rfl, ?_⟩) (by assumption) ?_
  rotate_left
  · (intro w hSw; (try dsimp only at hSw); go_simp; try with_reducible rfl)
  try simp only [Act.put, List.setIfInBounds_toArray, List.set_cons_zero, List.set_cons_succ]
  refine wpAnyH_take (i := 4) (oi := ⟨some 50, _, _, _, _, _⟩) (v := ?_) rfl (by kernel_rfl) (by kernel_rfl) (by kernel_rfl) (fun _ _ _ h => h) (Or.inl ⟨by rfl, ?_⟩) (by assumption) ?_
  rotate_left
  · (intro w hSw; (try dsimp only at hSw); go_simp; try with_reducible rfl)
  try simp only [Act.put, List.setIfInBounds_toArray, List.set_cons_zero, List.set_cons_succ]
  refine wpAnyH_take (i := 5) (oi := ⟨some 51, _, _, _, _, _⟩) (v := ?_) rfl (by kernel_rfl) (by kernel_rfl) (by kernel_rfl) (fun _ _ _ h => h) (Or.inl ⟨by rfl, ?_⟩) (by assumption) ?_
  rotate_left
  · (intro w hSw; (try dsimp only at hSw); go_simp; try with_reducible rfl)
  try simp only [Act.put, List.setIfInBounds_toArray, List.set_cons_zero, List.set_cons_succ]
  refine wpAnyH_take (i := 6) (oi := ⟨some 52, _, _, _, _, _⟩) (v := ?_) rfl (by kernel_rfl) (by kernel_rfl) (by kernel_rfl) (fun _ _ _ h => h) (Or.inl ⟨by rfl, ?_⟩) (by assumption) ?_
  rotate_left
  · (intro w hSw; (try dsimp only at hSw); go_simp; try with_reducible rfl)
  try simp only [Act.put, List.setIfInBounds_toArray, List.set_cons_zero, List.set_cons_succ]
  refine wpAnyH_take (i := 7) (oi := ⟨some 53, _, _, _, _, _⟩) (v := ?_) rfl (by kernel_rfl) (by kernel_rfl) (by kernel_rfl) (fun _ _ _ h => h) (Or.inl ⟨by rfl, ?_⟩) (by assumption) ?_
  rotate_left
  · (intro w hSw; (try dsimp only at hSw); go_simp; try with_reducible rfl)
  try simp only [Act.put, List.setIfInBounds_toArray, List.set_cons_zero, List.set_cons_succ]
  refine wpAnyH_take (i := 8) (oi := ⟨some 54, _, _, _, _, _⟩) (v := ?_) rfl (by kernel_rfl) (by kernel_rfl) (by kernel_rfl) (fun _ _ _ h => h) (Or.inl ⟨by rfl, ?_⟩) (by assumption) ?_
  rotate_left
  · (intro w hSw; (try dsimp only at hSw); go_simp; try with_reducible rfl)
  try simp only [Act.put, List.setIfInBounds_toArray, List.set_cons_zero, List.set_cons_succ]
  refine wpAnyH_take (i := 9) (oi := ⟨some 55, _, _, _, _, _⟩) (v := ?_) rfl (by kernel_rfl) (by kernel_rfl) (by kernel_rfl) (fun _ _ _ h => h) (Or.inl ⟨by rfl, ?_⟩) (by assumption) ?_
  rotate_left
  · (intro w hSw; (try dsimp only at hSw); go_simp; try with_reducible rfl)
  try simp only [Act.put, List.setIfInBounds_toArray, List.set_cons_zero, List.set_cons_succ]
  refine wpAnyH_take (i := 10) (oi := ⟨some 56, _, _, _, _, _⟩) (v := ?_) rfl (by kernel_rfl) (by kernel_rfl) (by kernel_rfl) (fun _ _ _ h => h) (Or.inl ⟨by rfl, ?_⟩) (by assumption) ?_
  rotate_left
  · (intro w hSw; (try dsimp only at hSw); go_simp; try with_reducible rfl)
  try simp only [Act.put, List.setIfInBounds_toArray, List.set_cons_zero, List.set_cons_succ]
  refine wpAnyH_take (i := 11) (oi := ⟨some 57, _, _, _, _, _⟩) (v := ?_) rfl (by kernel_rfl) (by kernel_rfl) (by kernel_rfl) (fun _ _ _ h => h) (Or.inl ⟨by rfl, ?_⟩) (by assumption) ?_
  rotate_left
  · (intro w hSw; (try dsimp only at hSw); go_simp; try with_reducible rfl)
  try simp only [Act.put, List.setIfInBounds_toArray, List.set_cons_zero, List.set_cons_succ]
  refine next_one 12 (by kernel_rfl) rfl (by rfl) fun K' HK' => ?_
  refine wp_store_row elt (.tmp 2) (.tmp 57) rfl w.heap.size #[.slice (some ⟨g, o, none⟩) T c, .slice A2 n2 c2, .slice A3 n3 c3] rfl rfl elt _ (HB2.out.ext (by (repeat (first | assumption | exact Ext.refl _ | apply Ext.drew | apply Ext.drewN | apply Ext.alloc | refine Ext.trans ?_ (by assumption))); first | done | fail)).h szEl rfl (one_three _ _ _ _ _ _ _ _ _) ?_
  refine held_go HK' trivial (fun hHeld => ?_)
  clear HK'
  try simp only [Act.put, List.setIfInBounds_toArray, List.set_cons_zero, List.set_cons_succ]
  refine wpAnyH_take (i := 13) (oi := ⟨some 3, _, _, _, _, _⟩) (v := ?_) rfl (by kernel_rfl) (by kernel_rfl) (by kernel_rfl) (fun _ _ _ h => h) (Or.inl ⟨by rfl, ?_⟩) (by assumption) ?_
  rotate_left
  · (intro w hSw; (try dsimp only at hSw); go_simp; try with_reducible rfl)
  try simp only [Act.put, List.setIfInBounds_toArray, List.set_cons_zero, List.set_cons_succ]
  refine wpAnyH_done (by kernel_rfl) ?_ _
  have hx := (HX2.out.trans ((by (repeat (first | assumption | exact Ext.refl _ | apply Ext.drew | apply Ext.drewN | apply Ext.alloc | refine Ext.trans ?_ (by assumption))); first | done | fail) : Ext w3 w3.drew)).setRow (Nat.le_refl _) #[Value.slice (some ⟨g, o, none⟩) T c, .slice A2 n2 c2, .slice A3 n3 c3]
  go_wp2_with fail
  refine bodyPost_ret (results_el rfl _ _ w.heap.size _ _ _ _ rfl rfl ((HB2.out.ext ((by (repeat (first | assumption | exact Ext.refl _ | apply Ext.drew | apply Ext.drewN | apply Ext.alloc | refine Ext.trans ?_ (by assumption))); first | done | fail) : Ext w3 w3.drew)).row _)) rfl ?_
  exact ⟨_, _, _, _, _, _, _, _, _, rfl, R1.out.ext hx, R2.out.ext hx, R3.out.ext hx, I1.out, I2.out, I3.out, hx⟩
end Go.Proofs.YthookcnkmlmgcaaGreatDoor
namespace Go.Proofs.YthookcnkmlmgcaaGreatDoor
open Go Go.RowKit
set_option maxRecDepth 4000

theorem inR : (Tryz.prog.info? 22).map (fun i => (i.zero, i.size, i.bytes)) = some (some (.slice none 0 0), 1, 24) := by kernel_rfl
/-- rows in a slice of the call's own -/
structure Rws (w : World) (B : Nat) (v : Value) (ls : List (List (BitVec 8))) : Prop where
  r : ∃ xs, w.ownsRow B 22 1 v ls.length xs ∧ ∀ (j : Nat) (l : List (BitVec 8)), ls[j]? = some l → ∃ x : Value, xs[j]? = some x ∧ Own w B x l.length l
section
variable {w w' : World} {B B' : Nat} {v : Value} {ls : List (List (BitVec 8))}
theorem Rws.ext (h : Rws w B v ls) (hx : Ext w w') : Rws w' B v ls := by
  obtain ⟨xs, h1, h2⟩ := h.r
  refine ⟨xs, ow_ext h1 hx, fun j l hj => ?_⟩
  obtain ⟨x, h3, h4⟩ := h2 j l hj
  exact ⟨x, h3, h4.ext hx⟩
theorem Rws.lower (h : Rws w B v ls) (hB : B' ≤ B) : Rws w B' v ls := by
  obtain ⟨xs, h1, h2⟩ := h.r
  refine ⟨xs, ow_lower h1 hB, fun j l hj => ?_⟩
  obtain ⟨x, h3, h4⟩ := h2 j l hj
  exact ⟨x, h3, h4.lower hB⟩
theorem Rws.nil (w : World) (B : Nat) : Rws w B (.slice none 0 0) [] := ⟨[], ⟨rfl, .inl ⟨rfl, rfl⟩⟩, fun _ _ h => by simp at h⟩
theorem Rws.form (h : Rws w B v ls) : ∃ A c, v = .slice A ls.length c := by
  obtain ⟨xs, h1, _⟩ := h.r
  rcases h1.2 with ⟨e, e2⟩ | ⟨g, cap, cur, e, _⟩
  · exact ⟨none, 0, by rw [e, e2]⟩
  · exact ⟨_, _, e⟩
/-- a row, and where it is told -/
theorem Rws.get (h : Rws w B v ls) (j : Nat) (l : List (BitVec 8)) (hj : ls[j]? = some l) :
    ∃ g c A d, v = .slice (some ⟨g, 0, none⟩) ls.length c ∧ B ≤ g ∧ g < w.heap.size ∧ w.cell? ⟨g, j, none⟩ = some (.slice A l.length d) ∧ Own w B (.slice A l.length d) l.length l ∧ A.map (·.block) ≠ some g := by
  obtain ⟨xs, h1, h2⟩ := h.r
  obtain ⟨x, h3, h4⟩ := h2 j l hj
  have hjl : j < ls.length := (List.getElem?_eq_some_iff.1 hj).1
  obtain ⟨A, d, rfl⟩ := h4.form
  rcases h1.2 with ⟨e, e2⟩ | ⟨g, cap, cur, rfl, hB, hh, hc, _, _, ht⟩
  · omega
  · refine ⟨g, cap, A, d, rfl, hB, (Array.getElem?_eq_some_iff.1 hh).1, ?_, h4, ?_⟩
    · rw [cell_of_row w g j cur _ (0, 0) hh, ← h3, ← ht, List.getElem?_take_of_lt (by omega)]
      simp
    · intro e
      rcases h4.o.2 with ⟨e1, _⟩ | ⟨g', cap', cur', e1, _, hh', _⟩
      · have e5 : A = none := by injection e1
        rw [e5] at e; simp at e
      · cases e1
        obtain rfl : g' = g := by simpa using e
        rw [hh] at hh'
        exact absurd (congrArg (fun (o : Option Obj) => match o with | some (.cells _ t _) => t | _ => 0) hh') (show ¬ ((22 : Nat) = 5) by decide)
theorem Own.apart {n m : Nat} {u : Value} {l : List (BitVec 8)} {xs : List Value} (hu : Own w B u m l) (h : w.ownsRow B' 22 1 v n xs) : u.ownBlock = none ∨ u.ownBlock ≠ v.ownBlock := by
  rcases hu.o.2 with ⟨rfl, _⟩ | ⟨g, cap, cur, rfl, _, hh, _⟩
  · exact .inl rfl
  · rcases h.2 with ⟨rfl, _⟩ | ⟨g', cap', cur', rfl, _, hh', _⟩
    · exact .inr (by simp [Value.ownBlock])
    · refine .inr fun e => ?_
      obtain rfl : g = g' := by simpa [Value.ownBlock] using e
      rw [hh] at hh'
      exact absurd (congrArg (fun (o : Option Obj) => match o with | some (.cells _ t _) => t | _ => 0) hh') (show ¬ ((5 : Nat) = 22) by decide)
/-- a literal of one row -/
theorem Rws.one {x : Value} {l : List (BitVec 8)} {g : Nat} (hx : Own w B x l.length l) (hg : B ≤ g) (hh : Has w g 22 #[x]) : Rws w B (.slice (some ⟨g, 0, none⟩) 1 1) [l] :=
  ⟨[x], ⟨rfl, .inr ⟨g, 1, #[x], rfl, hg, hh, Nat.le_refl _, by decide, rfl, rfl⟩⟩, fun j l' hj => by
    match j with
    | 0 => obtain rfl : l = l' := by simpa using hj
           exact ⟨x, rfl, hx⟩
    | j + 1 => simp at hj⟩
end
theorem wpList_append_rw {w : World} {ops : Array Oper} {rest : List Oper} {o : Oper} {a : Act} {Q : Exit → Act → World → Prop} (hgd : o.guard = none) (s x : Operand)
    (ho : o.op = .call { callee := .builtin .append, args := #[s, x], argTypes := #[49, 49] })
    (B : Nat) (v : Value) (ls : List (List (BitVec 8))) (hs : a.eval s = v) (hown : Rws w B v ls) (ad : Addr) (c : Nat) (u : Value) (l : List (BitVec 8)) (hx : a.eval x = .slice (some ad) 1 c) (hc : w.cell? ad = some u) (hu : Own w B u l.length l)
    (h47 : ls.length ≤ 1000000) (N : Nat) (hN : ls.length + 1 = N) (w0 : World) (hx0 : Ext w0 w) (hB : w0.heap.size ≤ B) (hBw : B ≤ w.heap.size)
    (h : ∀ A' c' w', Rws w' B (.slice A' N c') (ls ++ [l]) → Ext w0 w' → wpList Tryz.prog ops Q rest (a.put o.dst (.slice A' N c')) w') : wpList Tryz.prog ops Q (o :: rest) a w := by
  subst hN
  obtain ⟨i, hi0, hz, hs1, hb⟩ := info_parts inR
  obtain ⟨xs, h1, h2⟩ := hown.r
  have hxl : xs.length = ls.length := by have := h1.1; omega
  obtain ⟨v', w', hr, ho', hg', _, _⟩ := run_append_own_at (P := Tryz.prog) w B 49 o.type 22 i (.slice none 0 0) 1 24 Tryz.underlying49 hi0 hz hs1 hb rfl (by decide) v ls.length xs h1 ad 1 c [u] rfl
    (fun j y hj => by
      match j with
      | 0 => obtain rfl : u = y := by simpa using hj
             rw [show ad.add 0 = ad by unfold Addr.add; split <;> simp_all]; exact hc
      | j + 1 => simp at hj)
    (fun y hy => by
      obtain rfl : y = u := by simpa using hy
      obtain ⟨A, d, rfl⟩ := hu.form
      rfl) (by unfold maxLen; omega) (by omega) hBw
  have hnew : Rws w' B v' (ls ++ [l]) := by
    refine ⟨xs ++ [u], by simpa using ho', fun j l' hj => ?_⟩
    have keep : ∀ y m lm, Own w B y m lm → Own w' B y m lm := fun y m lm hy => hy.grown hg' (hy.apart h1)
    by_cases hjl : j < ls.length
    · rw [List.getElem?_append_left hjl] at hj
      obtain ⟨y, h3, h4⟩ := h2 j l' hj
      exact ⟨y, by rw [List.getElem?_append_left (by omega)]; exact h3, keep _ _ _ h4⟩
    · rw [List.getElem?_append_right (by omega)] at hj
      have hj0 : j - ls.length = 0 := by
        have := (List.getElem?_eq_some_iff.1 hj).1
        simp at this; omega
      rw [hj0] at hj
      obtain rfl : l = l' := by simpa using hj
      exact ⟨u, by rw [List.getElem?_append_right (by omega), hxl, hj0]; rfl, keep _ _ _ hu⟩
  obtain ⟨A', c', rfl⟩ := hnew.form
  rw [List.length_append, List.length_singleton] at hnew hr
  have hext : Ext w0 w' := hx0.grown hg' fun k hk => by
    rcases h1.2 with ⟨rfl, _⟩ | ⟨g, cap, cur, rfl, h3, _⟩
    · simp [Value.ownBlock] at hk
    · obtain rfl : g = k := by simpa [Value.ownBlock] using hk
      omega
  refine wpList_plain hgd fun _ hK => ?_
  unfold Oper.wp
  simp [execOp, ho, resolve, invoke, builtin, hs, hx, hr, Result.andThen]
  exact hK _ _ (h A' c' w' hnew hext)
/-- a piece of an array's cells as its element -/
theorem run_index_piece {w : World} {t e n sz : Nat} {L l : List (BitVec 8)} (k : Nat) (x : Int) (h : Tryz.prog.underlying t = some (.array n e)) (d : TypeDesc) (he : Tryz.prog.underlying e = some d) (hd : d.isRow = true) (hs : (Tryz.prog.info? e).map (·.size) = some sz)
    (hx : x = (k : Int)) (hk : k < n) (hl : l.length = sz) (hL : ∀ j, j < sz → gb L (k * sz + j) = gb l j) (hn : k * sz + sz ≤ L.length) :
    (Instr.index t (.agg (bv L)) (.int .i64 x)).run Tryz.prog w = .ok (.agg (bv l)) w := by
  subst hx hl
  cases hq : Tryz.prog.info? e with
  | none => simp [hq] at hs
  | some i =>
    have hs1 : i.size = l.length := by simpa [hq] using hs
    have hagg : (isAgg e).run Tryz.prog w = .ok true w := by
      unfold isAgg
      rw [Sem.run_bind, run_underlying he w]
      cases d <;> simp_all
    have hc : (bv L).extract (k * l.length) (k * l.length + l.length) = bv l := by
      apply Array.ext_getElem?
      intro j
      rw [Array.getElem?_extract]
      by_cases hj : j < l.length
      · rw [if_pos (by rw [bv_size]; omega), bv_at _ _ (by omega), bv_at _ _ hj, hL j hj]
      · rw [if_neg (by rw [bv_size]; omega), Array.getElem?_eq_none (by rw [bv_size]; omega)]
    have hkn : (k : Int) < (n : Int) := by omega
    simp [Instr.index, run_underlying h, asIntOf, sizeOf, typeInfo, hq, hs1, part, hagg, hk, hc, Sem.run_bind]
end Go.Proofs.YthookcnkmlmgcaaGreatDoor
namespace Go.Proofs.YthookcnkmlmgcaaGreatDoor
open Go Go.RowKit
set_option maxRecDepth 4000

abbrev rdt : TypeId := 58
theorem szRd : (Tryz.prog.info? rdt).map (·.size) = some 2 := by kernel_rfl
theorem szSl : (Tryz.prog.info? 22).map (·.size) = some 1 := by kernel_rfl
/-- a slice as an element -/
def eSl (t : Option Addr × Nat × Nat) : Value := .slice t.1 t.2.1 t.2.2
theorem eSl_one (t : Option Addr × Nat × Nat) : (eSl t).oneCell' = true := rfl
/-- a reader's cells, and what they lead to: what stands there, what stands behind each whole from the outermost on -/
structure Rt (w : World) (p : Nat) (ds : List Nat) (A : Option Addr) (n c : Nat) (vb : Value) (rest : List (BitVec 8)) (ts : List (Option Addr × Nat × Nat)) (bs : List (List (BitVec 8))) : Prop where
  blk : Blk w p rdt #[.slice A n c, vb]
  rs : Bs w A n c rest
  ri : In A n ds
  bo : Rw 22 eSl w 0 vb ts.length ts
  len : ts.length = bs.length
  each : ∀ (j : Nat) (t : Option Addr × Nat × Nat) (l : List (BitVec 8)), ts[j]? = some t → bs[j]? = some l → Bs w t.1 t.2.1 t.2.2 l ∧ In t.1 t.2.1 ds
  apd : Ap ds (p :: fpv vb)
  hid : Hi w ds
def fpR (p : Nat) (vb : Value) (ds : List Nat) : List Nat := p :: (fpv vb ++ ds)
theorem mem_fpR {p k : Nat} {vb : Value} {ds : List Nat} : k ∈ fpR p vb ds ↔ k = p ∨ k ∈ fpv vb ∨ k ∈ ds := by unfold fpR; simp
/-- a reader in its blocks -/
def Rr (w : World) (p : Nat) (G : List Nat) (rest : List (BitVec 8)) (bs : List (List (BitVec 8))) : Prop :=
  ∃ ds A n c vb ts, Rt w p ds A n c vb rest ts bs ∧ G = fpR p vb ds
section
variable {w w' : World} {p : Nat} {ds : List Nat} {A : Option Addr} {n c : Nat} {vb : Value} {rest : List (BitVec 8)} {ts : List (Option Addr × Nat × Nat)} {bs : List (List (BitVec 8))} {G H : List Nat}
theorem Rt.hi (h : Rt w p ds A n c vb rest ts bs) : Hi w (fpR p vb ds) := fun k hk => by
  rcases mem_fpR.1 hk with rfl | hk | hk
  · exact h.blk.lt
  · exact h.bo.fp_lt k hk
  · exact h.hid k hk
theorem Rt.mds (h : Rt w p ds A n c vb rest ts bs) (hm : Mds H w w') (ha : Ap (fpR p vb ds) H) : Rt w' p ds A n c vb rest ts bs := by
  have hd : Ap ds H := fun k hk => ha k (mem_fpR.2 (.inr (.inr hk)))
  refine ⟨h.blk.mds hm (ha p (mem_fpR.2 (.inl rfl))), h.rs.mds hm (h.ri.off hd), h.ri, h.bo.mds hm fun k hk => ha k (mem_fpR.2 (.inr (.inl hk))), h.len, fun j t l h1 h2 => ?_, h.apd, h.hid.mono hm.size⟩
  obtain ⟨h3, h4⟩ := h.each j t l h1 h2
  exact ⟨h3.mds hm (h4.off hd), h4⟩
theorem Rt.ext (h : Rt w p ds A n c vb rest ts bs) (hx : Ext w w') : Rt w' p ds A n c vb rest ts bs := h.mds (hx.mds []) (fun _ _ h => by cases h)
theorem Rr.hi (h : Rr w p G rest bs) : Hi w G := by
  obtain ⟨ds, A, n, c, vb, ts, h, rfl⟩ := h
  exact h.hi
theorem Rr.mds (h : Rr w p G rest bs) (hm : Mds H w w') (ha : Ap G H) : Rr w' p G rest bs := by
  obtain ⟨ds, A, n, c, vb, ts, h, rfl⟩ := h
  exact ⟨ds, A, n, c, vb, ts, h.mds hm ha, rfl⟩
theorem Rr.ext (h : Rr w p G rest bs) (hx : Ext w w') : Rr w' p G rest bs := h.mds (hx.mds []) (fun _ _ h => by cases h)
/-- what stands there is another piece -/
theorem Rt.put {A' : Option Addr} {n' c' : Nat} {rest' : List (BitVec 8)} (h : Rt w p ds A n c vb rest ts bs) (hr : Bs w A' n' c' rest') (hi : In A' n' ds) :
    Rt (w.setCell ⟨p, 0, none⟩ (.slice A' n' c')) p ds A' n' c' vb rest' ts bs ∧ Mvs (fpR p vb ds) (fpR p vb ds) w (w.setCell ⟨p, 0, none⟩ (.slice A' n' c')) := by
  have hm : Mds [p] w (w.setCell ⟨p, 0, none⟩ (.slice A' n' c')) := (Mds.refl [p] w).setCell (p := ⟨p, 0, none⟩) (by simp) _
  have hd : Ap ds [p] := fun k hk h1 => h.apd k hk (by rw [List.mem_singleton.1 h1]; simp)
  refine ⟨⟨h.blk.set_ 0 _, hr.mds hm (hi.off hd), hi, h.bo.mds hm (fun k hk h1 => h.bo.ne h.blk (by decide) (by rwa [List.mem_singleton.1 h1] at hk)), h.len, fun j t l h1 h2 => ?_, h.apd, h.hid.mono hm.size⟩, hm.mono fun k hk => mem_fpR.2 (.inl (List.mem_singleton.1 hk)), fun k hk => .inl hk⟩
  obtain ⟨h3, h4⟩ := h.each j t l h1 h2
  exact ⟨h3.mds hm (h4.off hd), h4⟩
theorem Mvs.same {w : World} {v v' : Value} (h : v'.ownBlock = v.ownBlock ∨ v'.ownBlock = none) : Mvs (fpv v) (fpv v') w w := ⟨Mds.refl _ _, fun k hk => .inl (by
  rw [mem_fpv] at hk ⊢
  rcases h with e | e
  · rw [← e]; exact hk
  · rw [e] at hk; cases hk)⟩
/-- another row of what stands behind -/
theorem Rt.hold {vb' : Value} {ts' : List (Option Addr × Nat × Nat)} {bs' : List (List (BitVec 8))} (h : Rt w p ds A n c vb rest ts bs) (hm : Mvs (fpv vb) (fpv vb') w w') (ho : Rw 22 eSl w' 0 vb' ts'.length ts') (hlen : ts'.length = bs'.length)
    (he : ∀ (j : Nat) (t : Option Addr × Nat × Nat) (l : List (BitVec 8)), ts'[j]? = some t → bs'[j]? = some l → Bs w t.1 t.2.1 t.2.2 l ∧ In t.1 t.2.1 ds) :
    Rt (w'.setCell ⟨p, 1, none⟩ vb') p ds A n c vb' rest ts' bs' ∧ Mvs (fpR p vb ds) (fpR p vb' ds) w (w'.setCell ⟨p, 1, none⟩ vb') := by
  have hm2 : Mds (p :: fpv vb) w (w'.setCell ⟨p, 1, none⟩ vb') := (hm.m.mono fun k hk => List.mem_cons_of_mem _ hk).setCell (p := ⟨p, 1, none⟩) (by simp) _
  have h1 := h.blk.mds hm.m (h.bo.ne h.blk (by decide))
  refine ⟨⟨h1.set_ 1 _, h.rs.mds hm2 (h.ri.off h.apd), h.ri, ho.far (p := ⟨p, 1, none⟩) (fun e => ho.ne h1 (by decide) (mem_fpv.2 e)) _, hlen, fun j t l h2 h3 => ?_, fun k hk hk2 => ?_, h.hid.mono hm2.size⟩, hm2.mono fun k hk => ?_, fun k hk => ?_⟩
  · obtain ⟨h4, h5⟩ := he j t l h2 h3
    exact ⟨h4.mds hm2 (h5.off h.apd), h5⟩
  · rcases List.mem_cons.1 hk2 with e | e
    · exact h.apd k hk (e ▸ by simp)
    · rcases hm.f k e with e2 | e2
      · exact h.apd k hk (List.mem_cons_of_mem _ e2)
      · have := h.hid k hk; omega
  · rcases List.mem_cons.1 hk with e | e
    · exact mem_fpR.2 (.inl e)
    · exact mem_fpR.2 (.inr (.inl e))
  · rcases mem_fpR.1 hk with e | e | e
    · exact .inl (mem_fpR.2 (.inl e))
    · rcases hm.f k e with e2 | e2
      · exact .inl (mem_fpR.2 (.inr (.inl e2)))
      · exact .inr e2
    · exact .inl (mem_fpR.2 (.inr (.inr e)))
end
section
variable {w : World} {p : Nat} {G : List Nat} {rest : List (BitVec 8)} {bs : List (List (BitVec 8))}
set_option maxHeartbeats 1000000 in
theorem NewReader_any {b : List (BitVec 8)} {A : Option Addr} {n c : Nat} {w : World} (h : Bs w A n c b) (hn : n ≤ 140737488351232) : Calls Tryz.prog 10 #[.slice A n c] w fun e w' => ∃ p, e = .returned (.pointer (some ⟨p, 0, none⟩)) ∧ (∃ G, Rr w' p G b [] ∧ Lo w.heap.size G) ∧ Ext w w' := by
  have C := Kp.mk (Clone_any h hn)
  clear h hn
  go_enter Tryz.func10, Tryz.ntmps10
  go_wp2_with (first | (go_at_call 22; refine C.out.mono ?_; rintro e w1 ⟨A1, c1, rfl, hs1, ho1, hx1⟩; have HS1 := Kp.mk hs1; have HO1 := Kp.mk ho1; have HX1 := Kp.mk hx1; clear hs1 ho1 hx1) | fail)
  go_ret
  have hB := Blk.new w1 rdt #[.slice A1 n c1, .slice none 0 0]
  have hx2 : Ext w1 (w1.alloc (.cells #[.slice A1 n c1, .slice none 0 0] rdt)) := (by (repeat (first | assumption | exact Ext.refl _ | apply Ext.drew | apply Ext.drewN | apply Ext.alloc | refine Ext.trans ?_ (by assumption))); first | done | fail)
  have hlt := HO1.out.rw.fp_lt
  refine ⟨w1.heap.size, rfl, ⟨_, ⟨fpv (.slice A1 n c1), A1, n, c1, .slice none 0 0, [], ⟨hB, HS1.out.ext hx2, fun ad hn e => ?_, Rw.nil _ _, rfl, fun j t l h1 => by simp at h1, fun k hk h1 => ?_, fun k hk => Nat.lt_of_lt_of_le (hlt k hk) hx2.size⟩, rfl⟩, fun k hk => ?_⟩, HX1.out.trans hx2⟩
  · obtain ⟨g, e2, _, _⟩ := HO1.out.some_ hn
    rw [e] at e2
    cases e2
    rw [mem_fpv, e]; rfl
  · have h2 := hlt k hk
    simp [fpv, Value.ownBlock] at h1
    omega
  · rcases mem_fpR.1 hk with rfl | hk | hk
    · exact HX1.out.size
    · simp [fpv, Value.ownBlock] at hk
    · exact HO1.out.rw.base k (mem_fpv.1 hk)
/-- how Next answers -/
def nxV (rest : List (BitVec 8)) : Value := if rest.length = 0 then .tuple #[.int .u8 0, .bool false] else .tuple #[.int .u8 (ub (gb rest 0)), .bool true]
set_option maxHeartbeats 1000000 in
theorem Next_any (h : Rr w p G rest bs) : Calls Tryz.prog 24 #[.pointer (some ⟨p, 0, none⟩)] w fun e w' => e = .returned (nxV rest) ∧ w' = w := by
  obtain ⟨ds, A, n, c, vb, ts, h, rfl⟩ := h
  have hc0 := fun (w' : World) (hx : Ext w w') => h.blk.cell hx 0
  have hl := h.rs.len
  unfold nxV
  by_cases hn : n = 0
  · rw [if_pos (by omega)]
    subst hn
    clear h hl
    go_enter Tryz.func24, Tryz.ntmps24
    go_wp2_with fail
    go_ret2
    exact ⟨rfl, rfl⟩
  · rw [if_neg (by omega)]
    obtain ⟨g, o, rfl, hc⟩ := h.rs.s.2.2.2 (by omega)
    have k0 := hc 0 (by omega)
    rw [Nat.add_zero] at k0
    have b1 : 0 < (n : Int) := by omega
    have b2 : ((n : Int) == 0) = false := beq_eq_false_iff_ne.2 (by omega)
    clear h hl hc
    go_enter Tryz.func24, Tryz.ntmps24
    go_wp2_with fail
    go_ret2
    exact ⟨rfl, rfl⟩
/-- what End tells -/
def endC (rest : List (BitVec 8)) (bs : List (List (BitVec 8))) : Nat := if 0 < bs.length then 17 else if 0 < rest.length then 3 else 0
def errW (n : Nat) : Value := if n = 0 then .nilIface else err n
set_option maxHeartbeats 1000000 in
theorem End_any (h : Rr w p G rest bs) : Calls Tryz.prog 13 #[.pointer (some ⟨p, 0, none⟩)] w fun e w' => e = .returned (errW (endC rest bs)) ∧ w' = w := by
  obtain ⟨ds, A, n, c, vb, ts, h, rfl⟩ := h
  obtain ⟨Ab, cb, rfl⟩ := h.bo.form
  have hc0 := fun (w' : World) (hx : Ext w w') => h.blk.cell hx 0
  have hc1 := fun (w' : World) (hx : Ext w w') => h.blk.cell hx 1
  have hl := h.rs.len
  have hl2 := h.len
  unfold endC errW
  obtain ⟨M, hM⟩ : ∃ M, ts.length = M := ⟨_, rfl⟩
  rw [hM] at hl2 hc0 hc1
  by_cases hb : 0 < M
  · rw [if_pos (show 0 < bs.length by omega), if_neg (by decide)]
    have b1 : 0 < (M : Int) := by omega
    clear h hl hl2 hM
    go_enter Tryz.func13, Tryz.ntmps13
    go_wp2_with fail
    go_ret
    exact ⟨rfl, rfl⟩
  · rw [if_neg (show ¬ 0 < bs.length by omega)]
    obtain rfl : M = 0 := by omega
    by_cases hn : 0 < n
    · rw [if_pos (show 0 < rest.length by omega), if_neg (by decide)]
      have b1 : 0 < (n : Int) := by omega
      clear h hl hl2 hM hb
      go_enter Tryz.func13, Tryz.ntmps13
      go_wp2_with fail
      go_ret
      exact ⟨rfl, rfl⟩
    · rw [if_neg (show ¬ 0 < rest.length by omega), if_pos rfl]
      obtain rfl : n = 0 := by omega
      clear h hl hl2 hM hb hn
      go_enter Tryz.func13, Tryz.ntmps13
      go_wp2_with fail
      go_ret
      exact ⟨rfl, rfl⟩
end
end Go.Proofs.YthookcnkmlmgcaaGreatDoor
