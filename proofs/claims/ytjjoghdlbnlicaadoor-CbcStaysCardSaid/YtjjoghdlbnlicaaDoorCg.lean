/-
  What blocks hands back, as a loop goes through it: each block of 16 bytes, in their order.
-/
import Derived.Test.YtjjoghdlbnlicaaDoorCf
namespace Go.Proofs.YtjjoghdlbnlicaaDoor
open Go Go.RowKit
attribute [local go_sem] Oper.semAt_some

/-- two blocks lie as they lay: the bytes that are gone through, and where they are told -/
structure Kb (g B : Nat) (w w' : World) : Prop where
  a : w'.heap[g]? = w.heap[g]?
  b : w'.heap[B]? = w.heap[B]?
theorem Kb.refl (g B : Nat) (w : World) : Kb g B w w := ⟨rfl, rfl⟩
theorem Kb.trans {g B : Nat} {w w' w'' : World} (h : Kb g B w w') (h' : Kb g B w' w'') : Kb g B w w'' := ⟨h'.a.trans h.a, h'.b.trans h.b⟩
theorem cell_same {w w' : World} {g : Nat} (h : w'.heap[g]? = w.heap[g]?) (i : Nat) : w'.cell? ⟨g, i, none⟩ = w.cell? ⟨g, i, none⟩ := by simp [World.cell?, h]
theorem kb_b {w : World} {g B : Nat} (hg : g < w.heap.size) (hB : B < w.heap.size) (W : World) (l : Nat) (o o' : Obj) (hl : w.heap.size ≤ l) (_ : W.heap[l]? = some o) (_ : o.isCells = false) (_ : o.isWalk = false) : Kb g B W (W.putObj l o') :=
  ⟨World.putObj_heap_other (by omega), World.putObj_heap_other (by omega)⟩
theorem run_mid {P : Program} (g o n c t e : Nat) (ht : P.underlying t = some (.slice e)) (hs : (P.info? e).map (·.size) = some 1) (i k : Nat) (x y : Int) (hx : x = (i : Int)) (hy : y = ((i + k : Nat) : Int)) (hk : i + k ≤ n) (hn : n ≤ c) (h0 : 0 < k) (w : World) :
    (Instr.sliceAt t (.slice (some ⟨g, o, none⟩) n c) (some (.int .i64 x)) (some (.int .i64 y)) none).run P w = .ok (.slice (some ⟨g, o + i, none⟩) k (c - i)) w := by
  subst hx hy
  have hadd : (⟨g, o, none⟩ : Addr).add i = ⟨g, o + i, none⟩ := by unfold Addr.add; split <;> simp_all
  cases hq : P.info? e with
  | none => simp [hq] at hs
  | some j =>
    have hs1 : j.size = 1 := by simpa [hq] using hs
    have e1 : 0 ≤ (i : Int) + (k : Int) := by omega
    have e2 : (i : Int) + (k : Int) ≤ c := by omega
    have e3 : ((i : Int) + (k : Int)).toNat = i + k := by omega
    have e4 : ¬ c = i := by omega
    simp [Instr.sliceAt, Instr.slice, run_underlying ht, Instr.sliceBounds, Instr.sliceBound, asIntOf, sizeOf, typeInfo, hq, hs1, e1, e2, e3, e4, hadd]
theorem Rge.part {w : World} {g o : Nat} {b : List (BitVec 8)} (h : Rge w g o b) (k : Nat) (hk : 16 * k + 16 ≤ b.length) (m : Nat) (hm : m = 16 * k) : Rge w g (o + m) (b16 b k) := ⟨fun j v hv => by
  subst hm
  have hl := b16_len b k hk
  have hj : j < 16 := by have := (List.getElem?_eq_some_iff.1 hv).1; simp at this; omega
  have h2 := h.r (16 * k + j) v (by
    rw [← hv, List.getElem?_map, List.getElem?_map, List.getElem?_eq_getElem (by omega), List.getElem?_eq_getElem (by omega)]
    have e := b16_gb b k j hj
    simp only [gb, List.getD_eq_getElem?_getD, List.getElem?_eq_getElem (show j < (b16 b k).length by omega), List.getElem?_eq_getElem (show 16 * k + j < b.length by omega), Option.getD_some] at e
    rw [e])
  rwa [← Nat.add_assoc] at h2⟩
theorem Rge.same {w w' : World} {g o : Nat} {b : List (BitVec 8)} (h : Rge w g o b) (hs : w'.heap[g]? = w.heap[g]?) : Rge w' g o b := ⟨fun j v hv => (cell_same hs _).trans (h.r j v hv)⟩
set_option maxHeartbeats 2000000 in
theorem iter_in (n : Nat) (hn : 1 ≤ n) (l Bn g o N c T : Nat) (b : List (BitVec 8)) (hT : T = 16 * N) (hb : b.length = T) (hTb : T ≤ 140737488350000) (hc : T ≤ c) (J Jx : List B16 → World → Prop)
    (hY : ∀ pre x W, J pre W → pre.length < N → YieldAt Fence.wide (n - 1) Tryd.prog l #[.agg (bv x.1)] W fun e W' =>
      (e = .returned (.bool true) ∧ J (pre ++ [x]) W' ∧ Kb g Bn W W') ∨ (e = .returned (.bool false) ∧ Jx (pre ++ [x]) W'))
    (W : World) (hBn : W.cell? ⟨Bn, 0, none⟩ = some (.slice (some ⟨g, o, none⟩) T c)) (hs : Rge W g o b) (h0 : J [] W) :
    CallsIn Fence.wide n Tryd.prog 31 #[.func (.yield l) #[] #[], .pointer (some ⟨Bn, 0, none⟩)] W fun e W' => (∃ v, e = .returned v) ∧
      ((∃ ys, vs ys = bls b N ∧ J ys W') ∨ (∃ pre, True ∧ Jx pre W')) := by
  refine callsIn_of_wp Tryd.func31 rfl trivial ?_ rfl
  simp only [Tryd.ntmps31, List.size_toArray, List.length_cons, List.length_nil, Nat.reduceAdd, Nat.reduceSub, Array.replicate_succ, Array.replicate_zero, List.push_toArray, List.append_toArray, List.nil_append, List.cons_append]
  have HB := Kp.mk hBn
  have HS := Kp.mk hs
  clear hBn hs
  gi_wp2
  gi_loopw [3] (fun v wr => ∃ k m : Nat, k ≤ N ∧ m = 16 * k ∧ v = .int .i64 (m : Int) ∧ (∃ pre : List B16, vs pre = bls b k ∧ J pre wr) ∧ Kb g Bn W wr) (fun v _ => T - (intOf v).toNat)
  case atStart => exact ⟨0, 0, Nat.zero_le _, rfl, rfl, ⟨[], rfl, h0⟩, Kb.refl _ _ _⟩
  case round =>
    obtain ⟨k, m, hk, hm, rfl, ⟨pre, hpre, hJ⟩, hkb⟩ := hrel
    have c1 : wr.cell? ⟨Bn, 0, none⟩ = some (.slice (some ⟨g, o, none⟩) T c) := (cell_same hkb.b 0).trans HB.out
    have hpl : pre.length = k := by rw [← vs_len, hpre, bls_len]
    by_cases hlt : k < N
    · have hx16 := b16_len b k (by omega)
      have hr := (HS.out.same hkb.a).part k (by omega) m hm
      obtain ⟨fn, tmps, assign, body, hy, hR⟩ := hY pre ⟨b16 b k, hx16⟩ wr hJ (by omega)
      dsimp only at hy
      have hsl := fun w => run_mid (P := Tryd.prog) g o T c 22 5 Tryd.underlying22 szB m 16 (m : Int) ((m : Int) + 16) rfl (by omega) (by omega) hc (by omega) w
      have hap := fun w => run_arrayAt3 (P := Tryd.prog) w 42 16 5 Tryd.underlying42 (some ⟨g, o + m, none⟩) 16 (c - m) (Nat.le_refl _)
      have d1 : (m : Int) < T := by omega
      have d2 : (T : Int) ≤ 140737488350000 := by omega
      have HR := Kp.mk hr
      have HX := Kp.mk hx16
      have HM := Kp.mk hm
      have HP := Kp.mk hpre
      have HK := Kp.mk hkb
      have HT := Kp.mk hT
      clear hr hm hpre hkb hJ hpl hT
      gi_wp2_with (first | (with_reducible refine at_load_in 17 16 ?_; refine wpListIn_load_rge rfl cb (.tmp 16) rfl g (o + m) (b16 b k) HR.out rfl _ Tryd.underlying42 rfl (szC _ HX.out) ?_) | fail)
      refine hR.mono ?_
      rintro e W3 (⟨rfl, hJ3, hk3⟩ | ⟨rfl, hJx3⟩)
      · gi_wp2
        go_roundw
        case rel => exact ⟨k + 1, m + 16, by omega, by have := HM.out; omega, by go_num, ⟨_, by rw [vs_snoc, HP.out, bls_succ], hJ3⟩, HK.out.trans hk3⟩
        case measure => simp [intOf]; omega
      · gi_wp2
        refine bodyPost_ret (results_none rfl _ _ _) rfl ?_
        exact ⟨⟨_, rfl⟩, .inr ⟨_, trivial, hJx3⟩⟩
    · obtain rfl : k = N := by omega
      obtain rfl : m = T := by omega
      gi_wp2
      go_end0
      exact ⟨⟨_, rfl⟩, .inl ⟨_, hpre, hJ⟩⟩
/-- what blocks hands back goes through all of them, in order -/
theorem iter_stops (n : Nat) (hn : 1 ≤ n) (Bn g o N c T : Nat) (b : List (BitVec 8)) (hT : T = 16 * N) (hb : b.length = T) (hTb : T ≤ 140737488350000) (hc : T ≤ c) (w : World)
    (hg : g < w.heap.size) (hBl : Bn < w.heap.size) (hBn : w.cell? ⟨Bn, 0, none⟩ = some (.slice (some ⟨g, o, none⟩) T c)) (hs : Rge w g o b) :
    SeqStopsK Fence.wide n Tryd.prog 31 #[.pointer (some ⟨Bn, 0, none⟩)] (fun x : B16 => #[Value.agg (bv x.1)]) (Kb g Bn) (fun ys => vs ys = bls b N) (fun _ => True) N w := fun l J Jx W hW _ _ hY h0 =>
  iter_in n hn l Bn g o N c T b hT hb hTb hc J Jx hY W ((hW.cell (p := ⟨Bn, 0, none⟩) hBl).trans hBn) (hs.same (hW.block g hg)) h0
end Go.Proofs.YtjjoghdlbnlicaaDoor
