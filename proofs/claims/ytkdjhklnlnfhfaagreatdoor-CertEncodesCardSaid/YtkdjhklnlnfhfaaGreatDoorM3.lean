/-
  The walks of the library's functions that cbc calls (at the arguments that it hands them), of Fill.
-/
import Derived.Test.YtkdjhklnlnfhfaaGreatDoorM1
import Derived.Test.YtkdjhklnlnfhfaaGreatDoorM2
import Derived.Lib.MakeNoZero
import Derived.Lib.AppendZerosOnto
namespace Go.Proofs.YtkdjhklnlnfhfaaGreatDoor
open Go Go.RowKit
set_option maxRecDepth 4000

set_option maxHeartbeats 1000000 in
theorem Mul64_any (n : Nat) (hn : n < 17) (w : World) : Calls Tryz.prog 221 #[.int .u64 1, .int .u64 (n : Int)] w fun e w' => e = .returned (.tuple #[.int .u64 0, .int .u64 (n : Int)]) ∧ w = w' := by
  have a1 : bits .and .u64 (n : Int) 4294967295 = (n : Int) := (by decide : ∀ n : Nat, n < 17 → bits .and .u64 (n : Int) 4294967295 = (n : Int)) n hn
  go_enter Tryz.func221, Tryz.ntmps221
  go_wp2
  go_ret2
  have h17 : n = 0 ∨ n = 1 ∨ n = 2 ∨ n = 3 ∨ n = 4 ∨ n = 5 ∨ n = 6 ∨ n = 7 ∨ n = 8 ∨ n = 9 ∨ n = 10 ∨ n = 11 ∨ n = 12 ∨ n = 13 ∨ n = 14 ∨ n = 15 ∨ n = 16 := by omega
  clear a1 hn
  rcases h17 with rfl | rfl | rfl | rfl | rfl | rfl | rfl | rfl | rfl | rfl | rfl | rfl | rfl | rfl | rfl | rfl | rfl <;> exact ⟨rfl, rfl⟩
set_option maxHeartbeats 1000000 in
theorem Mul_any (n : Nat) (hn : n < 17) (w : World) : Calls Tryz.prog 175 #[.int .u64 1, .int .u64 (n : Int)] w fun e w' => e = .returned (.tuple #[.int .u64 0, .int .u64 (n : Int)]) ∧ w = w' := by
  go_enter Tryz.func175, Tryz.ntmps175
  go_wp2_with (go_at_call 221; refine (Mul64_any n hn w).mono ?_; rintro e w1 ⟨rfl, rfl⟩)
  go_ret2
  exact ⟨rfl, rfl⟩
theorem wp_copy_splice {P : Program} {o : Oper} {a : Act} {w : World} {K : Act → World → Prop} {Q : Exit → Act → World → Prop} (hgd : o.guard = none) (d s : Operand) (dT sT : TypeId)
    (ho : o.op = .call { callee := .builtin .copy, args := #[d, s], argTypes := #[dT, sT] }) (elem : TypeId) (hu : P.underlying dT = some (.slice elem)) (hsz : (P.info? elem).map (·.size) = some 1)
    (dp sp : Option Addr) (dLen dCap sLen sCap : Nat) (hd : a.eval d = .slice dp dLen dCap) (hs : a.eval s = .slice sp sLen sCap)
    (g off : Nat) (cur : List Value) (t : TypeId) (hg : w.heap[g]? = some (.cells cur.toArray t (0, 0))) (cs : List Value) (hn : cs.length = Nat.min sLen dLen)
    (hpos : 0 < cs.length → dp = some ⟨g, off, none⟩ ∧ ∃ ad, sp = some ad ∧ ∀ j v, cs[j]? = some v → w.cell? (ad.add j) = some v)
    (hfit : off + cs.length ≤ cur.length) (h1 : ∀ v ∈ cs, v.oneCell' = true) (B : Nat) (w0 : World) (hb : Below B w0 w) (hBg : B ≤ g)
    (h : ∀ w', Hid (w'.heap[g]? = some (.cells (splice cur off cs).toArray t (0, 0))) → Below B w0 w' → K (a.put o.dst (goInt cs.length)) w') : o.wp P a w K Q := by
  have h2 := step_copy_splice (ops := #[]) (E := True) hgd d s dT sT ho elem hu hsz dp sp dLen dCap sLen sCap hd hs g off cur t hg cs hn hpos hfit h1 B w0 hb hBg (Q := Q) h
  rwa [if_pos (by simp [Region.wanted, hgd])] at h2
theorem add_z (g k : Nat) : (⟨g, 0, none⟩ : Addr).add k = ⟨g, k, none⟩ := by unfold Addr.add; split <;> simp_all
/-- s[:n:n] -/
theorem run_cut3 (g n C : Nat) (h : n ≤ C) (w : World) : (Instr.sliceAt 39 (.slice (some ⟨g, 0, none⟩) n C) none (some (.int .i64 (n : Int))) (some (.int .i64 (n : Int)))).run Tryz.prog w = .ok (.slice (some ⟨g, 0, none⟩) n n) w := by
  have hs := szB
  cases hq : Tryz.prog.info? 5 with
  | none => simp [hq] at hs
  | some i =>
    simp [Instr.sliceAt, Instr.slice, run_underlying Tryz.underlying39, Instr.sliceBounds, Instr.sliceBound, asIntOf, sizeOf, typeInfo, hq, h, Addr.add]
theorem rep_take (n k : Nat) (x : Value) (h : k ≤ n) : (List.replicate n x).take k = List.replicate k x := by rw [List.take_replicate, Nat.min_eq_left h]
/-- a row whose first k cells are x -/
structure Rep (w : World) (g n k : Nat) (x : BitVec 8) : Prop where
  h : ∃ cur : List Value, w.heap[g]? = some (.cells cur.toArray 5 (0, 0)) ∧ n ≤ cur.length ∧ cur.take k = List.replicate k (vb x)
theorem Rep.cell {w : World} {g n k : Nat} {x : BitVec 8} (h : Rep w g n k x) (j : Nat) (hj : j < k) : w.cell? ⟨g, j, none⟩ = some (vb x) := by
  obtain ⟨cur, h1, _, h3⟩ := h.h
  rw [cell_of_row w g j _ _ _ h1]
  have e : (cur.take k)[j]? = some (vb x) := by rw [h3, List.getElem?_replicate, if_pos hj]
  rw [List.getElem?_take_of_lt hj] at e
  simpa using e
theorem Rep.bs {w : World} {g n k : Nat} {x : BitVec 8} (h : Rep w g n k x) (c : Nat) (hc : k ≤ c) : Bs w (some ⟨g, 0, none⟩) k c (List.replicate k x) :=
  ⟨by simp, hc, (fun e => by cases e), fun _ => ⟨g, 0, rfl, fun j hj => by rw [Nat.zero_add, h.cell j hj, gb_rep _ _ _ hj]⟩⟩
theorem Rep.src {w : World} {g n k : Nat} {x : BitVec 8} (h : Rep w g n k x) (m : Nat) (hm : m ≤ k) (j : Nat) (v : Value) (hv : (List.replicate m (vb x))[j]? = some v) : w.cell? ((⟨g, 0, none⟩ : Addr).add j) = some v := by
  have hj : j < m := by have := (List.getElem?_eq_some_iff.1 hv).1; simpa using this
  rw [List.getElem?_replicate, if_pos hj] at hv
  rw [← hv, add_z]
  exact h.cell j (by omega)
theorem Rep.copied {w : World} {g n k m : Nat} {x : BitVec 8} {cur : List Value} (h : w.heap[g]? = some (.cells (splice cur k (List.replicate m (vb x))).toArray 5 (0, 0))) (hC : n ≤ cur.length) (hT : cur.take k = List.replicate k (vb x)) (hm : k + m ≤ n) : Rep w g n (k + m) x := by
  refine ⟨_, h, by rw [length_splice _ _ _ (by rw [List.length_replicate]; omega)]; exact hC, ?_⟩
  unfold splice
  rw [hT, ← List.append_assoc, List.replicate_append_replicate, List.take_left' (by simp)]
set_option maxHeartbeats 4000000 in
theorem Repeat_any {A : Option Addr} {c : Nat} {x : BitVec 8} {w : World} (n : Nat) (h1 : 1 ≤ n) (hn : n < 17) (hb : Bs w A 1 c [x]) :
    Calls Tryz.prog 128 #[.slice A 1 c, .int .i64 (n : Int)] w fun e w' => ∃ A' c', e = .returned (.slice A' n c') ∧ Bs w' A' n c' (List.replicate n x) ∧ Ext w w' := by
  obtain ⟨cs, hrun, hle, _⟩ := Lib.run_makeNoZero (P := Tryz.prog) w #[3] 39 5 Tryz.underlying39 n (by omega)
  have hcall : (callFunc 176 #[.int .i64 (n : Int)]).run Tryz.prog w = .ok (.value (.slice (some ⟨w.heap.size, 0, none⟩) n cs.size)) ((w.alloc (.cells cs 5)).drewN 2) := by
    rw [run_callFunc_extern Tryz.func176 (by kernel_rfl) (by kernel_rfl) (by kernel_rfl) (e := Extern.BytealgMakeNoZero.makeNoZero #[3] #[39]) (by kernel_rfl), hrun]
    rfl
  clear hrun
  have hcut := run_cut3 w.heap.size n cs.size hle
  have b0 : (n : Int) ≠ 0 := by omega
  have b1 : 0 ≤ (n : Int) := by omega
  have b2 : (n : Int) ≤ 16 := by omega
  have hx0 : Ext w ((w.alloc (.cells cs 5)).drewN 2) := (by (repeat (first | assumption | exact Ext.refl _ | apply Ext.drew | apply Ext.drewN | apply Ext.alloc | refine Ext.trans ?_ (by assumption))); first | done | fail)
  have hG0 : ((w.alloc (.cells cs 5)).drewN 2).heap[w.heap.size]? = some (.cells cs.toList.toArray 5 (0, 0)) := heap_alloc_new w _
  generalize (w.alloc (.cells cs 5)).drewN 2 = w0 at *
  obtain ⟨g, hg⟩ : ∃ g, g = w.heap.size := ⟨_, rfl⟩
  rw [← hg] at hcall hcut hG0
  have hf1 : ([x].map vb).length = Nat.min 1 n := by show 1 = min 1 n; omega
  have hf2 : 0 + ([x].map vb).length ≤ cs.toList.length := by simp; omega
  have HG := Kp.mk hG0
  have HF1 := Kp.mk hf1
  have HF2 := Kp.mk hf2
  have HB := Kp.mk hb
  have HX := Kp.mk hx0
  have Hg := Kp.mk hg
  clear hG0 hf1 hf2 hb hx0 hg
  go_enter Tryz.func128, Tryz.ntmps128
  go_wp2_with (first | (go_at_call 175; refine (Mul_any n hn w).mono ?_; rintro e w1 ⟨rfl, rfl⟩) | (with_reducible refine at_call_to 60 ?_; refine wpList_copy_splice (o := ⟨some 60, _, _, _, _, _⟩) rfl (.tmp 58) (.tmp 59) 39 39 rfl 5 Tryz.underlying39 szB (some ⟨g, 0, none⟩) A n n 1 c rfl rfl g 0 cs.toList 5 HG.out ([x].map vb) HF1.out (fun hp => ⟨rfl, (HB.out.ext HX.out).news hp⟩) HF2.out (one_vb' [x]) w.heap.size w HX.out.b (by rw [Hg.out]; exact Nat.le_refl _) ?_; intro w2 hG2 hb2) | fail)
  have hR : Rep w2 g n 1 x := ⟨_, hG2.out, by rw [length_splice _ _ _ HF2.out]; simpa using hle, rfl⟩
  have hX2 : Ext w w2 := ⟨hb2⟩
  clear hcut hcall HG HF1 HF2 HB HX hG2 hb2 hle
  go_loopw [10] (fun v wr => ∃ k : Nat, 1 ≤ k ∧ k ≤ n ∧ v = .int .i64 k ∧ Rep wr g n k x ∧ Ext w wr) (fun v _ => n - (intOf v).toNat)
  case atStart => exact ⟨1, Nat.le_refl _, h1, rfl, hR, hX2⟩
  case round =>
    clear hR hX2
    obtain ⟨k, hk1, hkn, rfl, hR, hX⟩ := hrel
    by_cases hlt : k < n
    · have c1 : (k : Int) < n := by omega
      have c2 : (k : Int) ≤ n := by omega
      have c3 : min (k : Int) (n : Int) = (k : Int) := by omega
      have hs1 := fun W => run_from (P := Tryz.prog) (some ⟨g, 0, none⟩) n n 39 5 Tryz.underlying39 szB k (k : Int) rfl (by omega) W
      have hs2 := fun W => run_upto (P := Tryz.prog) (some ⟨g, 0, none⟩) n n 39 5 Tryz.underlying39 szB k (k : Int) rfl (by omega) W
      simp only [if_neg (show ¬ n = k by omega), Option.map_some, add_z] at hs1
      obtain ⟨cur, hG, hC, hT⟩ := hR.h
      obtain ⟨m, hm⟩ : ∃ m, m = Nat.min k (n - k) := ⟨_, rfl⟩
      have hm1 : 1 ≤ m := by have : m = min k (n - k) := hm; omega
      have hm2 : k + m ≤ n := by have : m = min k (n - k) := hm; omega
      have hmk : m ≤ k := by have : m = min k (n - k) := hm; omega
      have HG : Kp (wr.drew.heap[g]? = some (.cells cur.toArray 5 (0, 0))) := ⟨hG⟩
      have HR : Kp (Rep wr.drew g n k x) := ⟨⟨hR.h⟩⟩
      have HC := Kp.mk hC
      have HT := Kp.mk hT
      have HX : Kp (Below w.heap.size w wr.drew) := ⟨hX.b.drew⟩
      have HL : Kp ((List.replicate m (vb x)).length = Nat.min k (n - k)) := ⟨by rw [List.length_replicate]; exact hm⟩
      have HF : Kp (k + (List.replicate m (vb x)).length ≤ cur.length) := ⟨by rw [List.length_replicate]; omega⟩
      have HO : Kp (∀ v ∈ List.replicate m (vb x), v.oneCell' = true) := ⟨fun v hv => by rw [(List.mem_replicate.1 hv).2]; rfl⟩
      have HM := Kp.mk hm
      have hw : IntKind.i64.wrap ((k : Int) + (m : Int)) = ((k + m : Nat) : Int) := by rw [IntKind.wrap_i64]; omega
      clear hR hX hG hC hT hm
      go_wp2_with fail
      refine wp_region_held_drew (S := fun w' => Ext w w') (by kernel_rfl) ⟨HX.out⟩ (fun hHeld => ?_)
      refine wpAnyH_take (i := 0) (oi := ⟨some 67, _, _, _, _, _⟩) (v := ?_) rfl (by kernel_rfl) (by kernel_rfl) (by kernel_rfl) (fun _ _ _ h => h) (Or.inl ⟨by rfl, ?_⟩) (by assumption) ?_
      rotate_left
      · (intro w hSw; (try dsimp only at hSw); go_simp; try with_reducible rfl)
      try simp only [Act.put, List.setIfInBounds_toArray, List.set_cons_zero, List.set_cons_succ]
      refine wpAnyH_take (i := 1) (oi := ⟨some 68, _, _, _, _, _⟩) (v := ?_) rfl (by kernel_rfl) (by kernel_rfl) (by kernel_rfl) (fun _ _ _ h => h) (Or.inl ⟨by rfl, ?_⟩) (by assumption) ?_
      rotate_left
      · (intro w hSw; (try dsimp only at hSw); go_simp; try with_reducible rfl)
      try simp only [Act.put, List.setIfInBounds_toArray, List.set_cons_zero, List.set_cons_succ]
      refine wpAnyH_take (i := 2) (oi := ⟨some 69, _, _, _, _, _⟩) (v := ?_) rfl (by kernel_rfl) (by kernel_rfl) (by kernel_rfl) (fun _ _ _ h => h) (Or.inl ⟨by rfl, ?_⟩) (by assumption) ?_
      rotate_left
      · (intro w hSw; (try dsimp only at hSw); go_simp; try with_reducible rfl)
      try simp only [Act.put, List.setIfInBounds_toArray, List.set_cons_zero, List.set_cons_succ]
      refine wpAnyH_take (i := 3) (oi := ⟨some 70, _, _, _, _, _⟩) (v := ?_) rfl (by kernel_rfl) (by kernel_rfl) (by kernel_rfl) (fun _ _ _ h => h) (Or.inl ⟨by rfl, ?_⟩) (by assumption) ?_
      rotate_left
      · (intro w hSw; (try dsimp only at hSw); go_simp; try with_reducible rfl)
      try simp only [Act.put, List.setIfInBounds_toArray, List.set_cons_zero, List.set_cons_succ]
      refine wpAnyH_take (i := 4) (oi := ⟨some 71, _, _, _, _, _⟩) (v := ?_) rfl (by kernel_rfl) (by kernel_rfl) (by kernel_rfl) (fun _ _ _ h => h) (Or.inl ⟨by rfl, ?_⟩) (by assumption) ?_
      rotate_left
      · (intro w hSw; (try dsimp only at hSw); go_simp; try with_reducible rfl)
      try simp only [Act.put, List.setIfInBounds_toArray, List.set_cons_zero, List.set_cons_succ]
      refine wpAnyH_take (i := 5) (oi := ⟨some 72, _, _, _, _, _⟩) (v := ?_) rfl (by kernel_rfl) (by kernel_rfl) (by kernel_rfl) (fun _ _ _ h => h) (Or.inl ⟨by rfl, ?_⟩) (by assumption) ?_
      rotate_left
      · (intro w hSw; (try dsimp only at hSw); go_simp; try with_reducible rfl)
      try simp only [Act.put, List.setIfInBounds_toArray, List.set_cons_zero, List.set_cons_succ]
      refine wpAnyH_take (i := 6) (oi := ⟨some 73, _, _, _, _, _⟩) (v := ?_) rfl (by kernel_rfl) (by kernel_rfl) (by kernel_rfl) (fun _ _ _ h => h) (Or.inl ⟨by rfl, ?_⟩) (by assumption) ?_
      rotate_left
      · (intro w hSw; (try dsimp only at hSw); go_simp; try with_reducible rfl)
      try simp only [Act.put, List.setIfInBounds_toArray, List.set_cons_zero, List.set_cons_succ]
      refine next_one 7 (by kernel_rfl) rfl (by rfl) fun K' HK' => ?_
      refine wp_copy_splice (o := ⟨some 74, _, _, _, _, _⟩) rfl (.tmp 70) (.tmp 73) 39 39 rfl 5 Tryz.underlying39 szB (some ⟨g, k, none⟩) (some ⟨g, 0, none⟩) (n - k) (n - k) k n rfl rfl g k cur 5 HG.out (List.replicate m (vb x)) HL.out (fun _ => ⟨rfl, _, rfl, HR.out.src m hmk⟩) HF.out HO.out w.heap.size w HX.out (by rw [Hg.out]; exact Nat.le_refl _) ?_
      intro w4 hg4 hb4
      rw [List.length_replicate]
      clear hHeld
      refine held_go HK' ⟨hb4⟩ (fun hHeld => ?_)
      clear HK'
      try simp only [Act.put, List.setIfInBounds_toArray, List.set_cons_zero, List.set_cons_succ]
      refine wpAnyH_take (i := 8) (oi := ⟨some 75, _, _, _, _, _⟩) (v := ?_) rfl (by kernel_rfl) (by kernel_rfl) (by kernel_rfl) (fun _ _ _ h => h) (Or.inl ⟨by rfl, ?_⟩) (by assumption) ?_
      rotate_left
      · (intro w hSw; (try dsimp only at hSw); go_simp; try with_reducible rfl)
      try simp only [Act.put, List.setIfInBounds_toArray, List.set_cons_zero, List.set_cons_succ]
      refine wpAnyH_take (i := 9) (oi := ⟨some 10, _, _, _, _, _⟩) (v := ?_) rfl (by kernel_rfl) (by kernel_rfl) (by kernel_rfl) (fun _ _ _ h => h) (Or.inl ⟨by rfl, ?_⟩) (by assumption) ?_
      rotate_left
      · (intro w hSw; (try dsimp only at hSw); go_simp; try with_reducible rfl)
      try simp only [Act.put, List.setIfInBounds_toArray, List.set_cons_zero, List.set_cons_succ]
      refine wpAnyH_done (by kernel_rfl) ?_ _
      go_wp2_with fail
      go_roundw
      case rel => exact ⟨k + m, by omega, hm2, rfl, Rep.copied hg4.out HC.out HT.out hm2, ⟨hb4⟩⟩
      case measure => simp [intOf]; omega
    · obtain rfl : k = n := by omega
      go_wp2_with fail
      go_ret
      exact ⟨_, _, rfl, hR.bs _ (Nat.le_refl _), hX⟩
theorem Repeat_at {A : Option Addr} {c : Nat} {x : BitVec 8} {w : World} (n : Nat) (z : Int) (hz : z = (n : Int)) (h1 : 1 ≤ n) (hn : n < 17) (hb : Bs w A 1 c [x]) :
    Calls Tryz.prog 128 #[.slice A 1 c, .int .i64 z] w fun e w' => ∃ A' c', e = .returned (.slice A' n c') ∧ Bs w' A' n c' (List.replicate n x) ∧ Ext w w' := by
  subst hz
  exact Repeat_any n h1 hn hb
end Go.Proofs.YtkdjhklnlnfhfaaGreatDoor
