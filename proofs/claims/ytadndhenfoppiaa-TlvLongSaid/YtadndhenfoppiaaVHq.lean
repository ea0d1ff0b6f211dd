/-
  tlv: elementOf, where an element begins; pieces of a slice.
-/
import Derived.Test.YtadndhenfoppiaaVHo
namespace Go.Proofs.Ytadndhenfoppiaa
open Go Go.RowKit
set_option maxRecDepth 4000

/-- a slice's cells lie in these blocks -/
def In (A : Option Addr) (n : Nat) (ds : List Nat) : Prop := ∀ ad, 0 < n → A = some ad → ad.block ∈ ds
theorem In.none (n : Nat) (ds : List Nat) : In Option.none n ds := fun _ _ h => by cases h
theorem In.zero (A : Option Addr) (ds : List Nat) : In A 0 ds := fun _ h => absurd h (Nat.lt_irrefl 0)
theorem In.off {A : Option Addr} {n : Nat} {ds G : List Nat} (h : In A n ds) (ha : Ap ds G) : Off A n G := fun ad hn e => ha _ (h ad hn e)
theorem In.less {A : Option Addr} {n m : Nat} {ds : List Nat} (h : In A n ds) (hm : 0 < m → 0 < n) : In A m ds := fun ad hn e => h ad (hm hn) e
theorem In.sub {A : Option Addr} {n m c k : Nat} {ds : List Nat} (h : In A n ds) (hm : 0 < m → 0 < n) : In (if c = k then A else A.map (·.add k)) m ds := fun ad hn e => by
  cases A with
  | none => split at e <;> simp at e
  | some a =>
    have h1 := h a (hm hn) rfl
    split at e
    · cases e; exact h1
    · simp only [Option.map_some, Option.some.injEq] at e
      rw [← e]
      unfold Addr.add
      split <;> exact h1
/-- s[i:j] -/
theorem run_midA {P : Program} (A : Option Addr) (n c t e : Nat) (ht : P.underlying t = some (.slice e)) (hs : (P.info? e).map (·.size) = some 1) (i j : Nat) (x y : Int) (hx : x = (i : Int)) (hy : y = (j : Int)) (hij : i ≤ j) (hj : j ≤ c) (w : World) :
    (Instr.sliceAt t (.slice A n c) (some (.int .i64 x)) (some (.int .i64 y)) none).run P w = .ok (.slice (if c = i then A else A.map (·.add i)) (j - i) (c - i)) w := by
  subst hx hy
  cases hq : P.info? e with
  | none => simp [hq] at hs
  | some i' =>
    have hs1 : i'.size = 1 := by simpa [hq] using hs
    simp [Instr.sliceAt, Instr.slice, run_underlying ht, Instr.sliceBounds, Instr.sliceBound, asIntOf, sizeOf, typeInfo, hq, hs1, hij, hj]
/-- what elementOf tells of an element -/
def ElR (w : World) (ds : List Nat) (m : BitVec 8) (x r : List (BitVec 8)) (e : Ending) (w' : World) : Prop :=
  ∃ A1 n1 c1 A2 n2 c2 A3 n3 c3, e = .returned (.tuple #[.agg #[.slice A1 n1 c1, .slice A2 n2 c2, .slice A3 n3 c3], .nilIface]) ∧
    Bs w' A1 n1 c1 (elm m x) ∧ Bs w' A2 n2 c2 x ∧ Bs w' A3 n3 c3 r ∧ In A1 n1 ds ∧ In A2 n2 ds ∧ In A3 n3 ds ∧ Ext w w'
set_option maxHeartbeats 8000000 in
theorem elementOf_ok {b x r : List (BitVec 8)} {m : BitVec 8} {A : Option Addr} {n c : Nat} {w : World} {ds : List Nat} (hb : Bs w A n c b) (hi : In A n ds) (hn2 : n ≤ 1000000000000) (h : El b m x r) : Calls Try.prog 45 #[.slice A n c] w (ElR w ds m x r) := by
  have hl := hb.len
  obtain ⟨p1, p2, p3, p4, p5, p6⟩ := el_parts h
  have hlo := hdn_lo x.length
  have hhi := hdn_hi x.length
  have hcap := hb.cap
  have hn : 0 < n := by omega
  have hx0 : Ext w (w.alloc (.cells #[.slice none 0 0, .slice none 0 0, .slice none 0 0] elt)) := (by (repeat (first | assumption | exact Ext.refl _ | apply Ext.drew | apply Ext.drewN | apply Ext.alloc | refine Ext.trans ?_ (by assumption))); first | done | fail)
  have hB0 := Blk.new w elt #[.slice none 0 0, .slice none 0 0, .slice none 0 0]
  have b0 : ((n : Int) == 0) = false := beq_eq_false_iff_ne.2 (by omega)
  have b0' : ¬ n = 0 := by omega
  have b1 : 0 < (n : Int) := by omega
  have k0 : ∃ g o, A = some ⟨g, o, none⟩ ∧ ∀ (w' : World), Ext w w' → w'.cell? ⟨g, o, none⟩ = some (.int .u8 (ub m)) := by
    obtain ⟨g, o, e, hc⟩ := hb.s.2.2.2 hn
    refine ⟨g, o, e, fun w' hx => ?_⟩
    obtain ⟨g', o', e', hc'⟩ := (hb.ext hx).s.2.2.2 hn
    rw [e] at e'
    cases e'
    have h1 := hc' 0 hn
    rwa [Nat.add_zero, p1] at h1
  have LO := Kp.mk (lengthOf_any (hb.ext hx0))
  rw [lnOf_el h] at LO
  have C := Kp.mk (fun u => Head_ok m x.length h.2.1 h.1 u)
  have HP : Kp (b.take (hdn x.length) = hdr m x.length) := ⟨p2⟩
  obtain ⟨D, hD⟩ : ∃ D, hdr m x.length = D := ⟨_, rfl⟩
  obtain ⟨k, hk⟩ : ∃ k, hdn x.length = k := ⟨_, rfl⟩
  obtain ⟨N, hN⟩ : ∃ N, x.length = N := ⟨_, rfl⟩
  obtain ⟨T, hT⟩ : ∃ T, k + N = T := ⟨_, rfl⟩
  have p7 : (b.take T).drop k = x := by
    rw [List.drop_take, ← hT, show k + N - k = N by omega, ← hk, ← hN]
    exact p5
  rw [hD, hk] at C HP
  rw [hN] at C LO p3 p4 p5 p6
  rw [show hdn N = k by rw [← hN, hk]] at p3 p4 p5 p6
  rw [hk] at hlo hhi
  rw [hT] at p4 p6
  have hTn : T ≤ n := by omega
  have hs1 := fun W => run_upto (P := Try.prog) A n c 23 5 Try.underlying23 szB T (T : Int) rfl (by omega) W
  have hs2 := fun W => run_midA (P := Try.prog) A n c 23 5 Try.underlying23 szB k T (k : Int) (T : Int) rfl rfl (by omega) (by omega) W
  have hs3 := fun W => run_from (P := Try.prog) A n c 23 5 Try.underlying23 szB T (T : Int) rfl (by omega) W
  have R1 := Kp.mk (hb.take T hTn)
  have R2 := Kp.mk ((hb.take T hTn).drop k (by omega))
  have R3 := Kp.mk (hb.drop T hTn)
  rw [p4] at R1
  rw [p7] at R2
  rw [p6] at R3
  have I1 := Kp.mk (hi.less (m := T) (fun _ => hn))
  have I2 := Kp.mk (hi.sub (m := T - k) (c := c) (k := k) (fun _ => hn))
  have I3 := Kp.mk (hi.sub (m := n - T) (c := c) (k := T) (fun _ => hn))
  obtain ⟨A2, hA2⟩ : ∃ A2, (if c = k then A else A.map (·.add k)) = A2 := ⟨_, rfl⟩
  obtain ⟨A3, hA3⟩ : ∃ A3, (if c = T then A else A.map (·.add T)) = A3 := ⟨_, rfl⟩
  rw [hA2] at R2 I2
  rw [hA3] at R3 I3
  simp only [hA2] at hs2
  simp only [hA3] at hs3
  obtain ⟨n2, hn2'⟩ : ∃ n2, T - k = n2 := ⟨_, rfl⟩
  obtain ⟨n3, hn3⟩ : ∃ n3, n - T = n3 := ⟨_, rfl⟩
  obtain ⟨c2, hc2⟩ : ∃ c2, c - k = c2 := ⟨_, rfl⟩
  obtain ⟨c3, hc3⟩ : ∃ c3, c - T = c3 := ⟨_, rfl⟩
  rw [hn2', hc2] at R2
  rw [hn2'] at I2
  rw [hn3, hc3] at R3
  rw [hn3] at I3
  simp only [hn2', hc2] at hs2
  simp only [hn3, hc3] at hs3
  obtain ⟨z, hz⟩ : ∃ z : Nat, n - k = z := ⟨_, rfl⟩
  have b2 : IntKind.i64.wrap ((n : Int) - (k : Int)) = (z : Int) := by rw [IntKind.wrap_i64]; omega
  have b3 : decide ((z : Int) < (N : Int)) = false := decide_eq_false (by omega)
  have b3' : decide (z < N) = false := decide_eq_false (by omega)
  have b3'' : ¬ z < N := by omega
  have b4 : IntKind.i64.wrap ((k : Int) + (N : Int)) = (T : Int) := by rw [IntKind.wrap_i64]; omega
  have HK : Kp (k ≤ 4611686018427387904) := ⟨by omega⟩
  have HN : Kp (n ≤ 4611686018427387904) := ⟨by omega⟩
  have HB0 := Kp.mk hB0
  have HX0 := Kp.mk hx0
  have HBB := Kp.mk hb
  obtain ⟨g, o, rfl, k0⟩ := k0
  have hk0 := k0 _ hx0
  clear h hl hb hi hB0 hx0 hhi hlo hcap hn hn2 p1 p2 p3 p4 p5 p6 p7 hD hk hN hT hTn hA2 hA3 hn2' hn3 hc2 hc3 hz
  go_enter Try.func45, Try.ntmps45
  go_wp2_with (first | (go_at_call 47; refine LO.out.mono ?_; rintro e w1 ⟨rfl, hx1⟩; have HX1 := Kp.mk (HX0.out.trans hx1); have k01 := k0 w1 HX1.out; have HB1 := Kp.mk (HB0.out.ext hx1); clear hx1) | (go_at_call 9; refine (C.out _).mono ?_; rintro e w2 ⟨A5, c5, rfl, hs5, ho5, hx5⟩; have HX2 := Kp.mk (HX1.out.trans hx5); have HB2 := Kp.mk (HB1.out.ext hx5); have HS2 := Kp.mk hs5; clear hx5 hs5 ho5) | (go_at_call 48; refine (HasPrefix_any (HBB.out.ext HX2.out) HS2.out HN.out HK.out true (by simp [HP.out])).mono ?_; rintro e w3 ⟨rfl, rfl⟩) | fail)
  refine wp_region_held_drew (S := fun _ => True) (by kernel_rfl) trivial (fun hHeld => ?_)
  refine wpAnyH_take (i := 0) (oi := ⟨some 46, _, _, _, _, _⟩) (v := ?_) rfl (by kernel_rfl) (by kernel_rfl) (by kernel_rfl) (fun _ _ _ h => h) (Or.inl ⟨by rfl, ?_⟩) (by assumption) ?_
  rotate_left
  · (intro w hSw; (try dsimp only at hSw); go_simp; try with_reducible rfl)
  try simp only [Act.put, List.setIfInBounds_toArray, List.set_cons_zero, List.set_cons_succ]
  refine wpAnyH_take (i := 1) (oi := ⟨some 47, _, _, _, _, _⟩) (v := ?_) rfl (by kernel_rfl) (by kernel_rfl) (by kernel_rfl) (fun _ _ _ h => h) (Or.inl ⟨by rfl, ?_⟩) (by assumption) ?_
  rotate_left
  · (intro w hSw; (try dsimp only at hSw); go_simp; try with_reducible rfl)
  try simp only [Act.put, List.setIfInBounds_toArray, List.set_cons_zero, List.set_cons_succ]
  refine wpAnyH_take (i := 2) (oi := ⟨some 48, _, _, _, _, _⟩) (v := ?_) rfl (by kernel_rfl) (by kernel_rfl) (by kernel_rfl) (fun _ _ _ h => h) (Or.inl ⟨by rfl, ?_⟩) (by assumption) ?_
  rotate_left
  · (intro w hSw; (try dsimp only at hSw); go_simp; try with_reducible rfl)
  try simp only [Act.put, List.setIfInBounds_toArray, List.set_cons_zero, List.set_cons_succ]
  refine wpAnyH_take (i := 3) (oi := ⟨some 49, _, _, _, _, _⟩) (v := ?_) rfl (by kernel_rfl) (by kernel_rfl) (by kernel_rfl) (fun _ _ _ h => h) (Or.inl ⟨by rfl, ?_⟩) (by assumption) ?_
  rotate_left
  · (intro w hSw; (try dsimp only at hSw); go_simp; try with_reducible rfl)
  try simp only [Act.put, List.setIfInBounds_toArray, List.set_cons_zero, List.set_cons_succ]
  refine wpAnyH_take (i := 4) (oi := ⟨some 50, _, _, _, _, _⟩) (v := ?_) rfl (by kernel_rfl) (by kernel_rfl) (by kernel_rfl) (fun _ _ _ h => h) (Or.inl ⟨by rfl, ?_⟩) (by assumption) ?_
  rotate_left
  · (intro w hSw; (try dsimp only at hSw); go_simp; try with_reducible rfl)
  try simp only [Act.put, List.setIfInBounds_toArray, List.set_cons_zero, List.set_cons_succ]
  refine wpAnyH_take (i := 5) (oi := ⟨some 51, _, _, _, _, _⟩) (v := ?_) rfl (by kernel_rfl) (by kernel_rfl) (by kernel_rfl) (fun _ _ _ h => h) (Or.inl ⟨by rfl, ?_⟩) (by assumption) ?_
  rotate_left
  · (intro w hSw; (try dsimp only at hSw); go_simp; try with_reducible rfl)
  try simp only [Act.put, List.setIfInBounds_toArray, List.set_cons_zero, List.set_cons_succ]
  refine wpAnyH_take (i := 6) (oi := ⟨some 52, _, _, _, _, _⟩) (v := ?_) rfl (by kernel_rfl) (by kernel_rfl) (by kernel_rfl) (fun _ _ _ h => h) (Or.inl ⟨by rfl, ?_⟩) (by assumption) ?_
  rotate_left
  · (intro w hSw; (try dsimp only at hSw); go_simp; try with_reducible rfl)
  try simp only [Act.put, List.setIfInBounds_toArray, List.set_cons_zero, List.set_cons_succ]
  refine wpAnyH_take (i := 7) (oi := ⟨some 53, _, _, _, _, _⟩) (v := ?_) rfl (by kernel_rfl) (by kernel_rfl) (by kernel_rfl) (fun _ _ _ h => h) (Or.inl ⟨by rfl, ?_⟩) (by assumption) ?_
  rotate_left
  · (intro w hSw; (try dsimp only at hSw); go_simp; try with_reducible rfl)
  try simp only [Act.put, List.setIfInBounds_toArray, List.set_cons_zero, List.set_cons_succ]
  refine wpAnyH_take (i := 8) (oi := ⟨some 54, _, _, _, _, _⟩) (v := ?_) rfl (by kernel_rfl) (by kernel_rfl) (by kernel_rfl) (fun _ _ _ h => h) (Or.inl ⟨by rfl, ?_⟩) (by assumption) ?_
  rotate_left
  · (intro w hSw; (try dsimp only at hSw); go_simp; try with_reducible rfl)
  try simp only [Act.put, List.setIfInBounds_toArray, List.set_cons_zero, List.set_cons_succ]
  refine wpAnyH_take (i := 9) (oi := ⟨some 55, _, _, _, _, _⟩) (v := ?_) rfl (by kernel_rfl) (by kernel_rfl) (by kernel_rfl) (fun _ _ _ h => h) (Or.inl ⟨by rfl, ?_⟩) (by assumption) ?_
  rotate_left
  · (intro w hSw; (try dsimp only at hSw); go_simp; try with_reducible rfl)
  try simp only [Act.put, List.setIfInBounds_toArray, List.set_cons_zero, List.set_cons_succ]
  refine wpAnyH_take (i := 10) (oi := ⟨some 56, _, _, _, _, _⟩) (v := ?_) rfl (by kernel_rfl) (by kernel_rfl) (by kernel_rfl) (fun _ _ _ h => h) (Or.inl ⟨by rfl, ?_⟩) (by assumption) ?_
  rotate_left
  · (intro w hSw; (try dsimp only at hSw); go_simp; try with_reducible rfl)
  try simp only [Act.put, List.setIfInBounds_toArray, List.set_cons_zero, List.set_cons_succ]
  refine wpAnyH_take (i := 11) (oi := ⟨some 57, _, _, _, _, _⟩) (v := ?_) rfl (by kernel_rfl) (by kernel_rfl) (by kernel_rfl) (fun _ _ _ h => h) (Or.inl ⟨by rfl, ?_⟩) (by assumption) ?_
  rotate_left
  · (intro w hSw; (try dsimp only at hSw); go_simp; try with_reducible rfl)
  try simp only [Act.put, List.setIfInBounds_toArray, List.set_cons_zero, List.set_cons_succ]
  refine next_one 12 (by kernel_rfl) rfl (by rfl) fun K' HK' => ?_
  refine wp_store_row elt (.tmp 2) (.tmp 57) rfl w.heap.size #[.slice (some ⟨g, o, none⟩) T c, .slice A2 n2 c2, .slice A3 n3 c3] rfl rfl elt _ (HB2.out.ext (by (repeat (first | assumption | exact Ext.refl _ | apply Ext.drew | apply Ext.drewN | apply Ext.alloc | refine Ext.trans ?_ (by assumption))); first | done | fail)).h szEl rfl (one_three _ _ _ _ _ _ _ _ _) ?_
  refine held_go HK' trivial (fun hHeld => ?_)
  clear HK'
  try simp only [Act.put, List.setIfInBounds_toArray, List.set_cons_zero, List.set_cons_succ]
  refine wpAnyH_take (i := 13) (oi := ⟨some 3, _, _, _, _, _⟩) (v := ?_) rfl (by kernel_rfl) (by kernel_rfl) (by kernel_rfl) (fun _ _ _ h => h) (Or.inl ⟨by rfl, ?_⟩) (by assumption) ?_
  rotate_left
  · (intro w hSw; (try dsimp only at hSw); go_simp; try with_reducible rfl)
  try simp only [Act.put, List.setIfInBounds_toArray, List.set_cons_zero, List.set_cons_succ]
  refine wpAnyH_done (by kernel_rfl) ?_ _
  have hx := (HX2.out.trans ((by (repeat (first | assumption | exact Ext.refl _ | apply Ext.drew | apply Ext.drewN | apply Ext.alloc | refine Ext.trans ?_ (by assumption))); first | done | fail) : Ext w3 w3.drew)).setRow (Nat.le_refl _) #[Value.slice (some ⟨g, o, none⟩) T c, .slice A2 n2 c2, .slice A3 n3 c3]
  go_wp2_with fail
  refine bodyPost_ret (results_el rfl _ _ w.heap.size _ _ _ _ rfl rfl ((HB2.out.ext ((by (repeat (first | assumption | exact Ext.refl _ | apply Ext.drew | apply Ext.drewN | apply Ext.alloc | refine Ext.trans ?_ (by assumption))); first | done | fail) : Ext w3 w3.drew)).row _)) rfl ?_
  exact ⟨_, _, _, _, _, _, _, _, _, rfl, R1.out.ext hx, R2.out.ext hx, R3.out.ext hx, I1.out, I2.out, I3.out, hx⟩
end Go.Proofs.Ytadndhenfoppiaa
