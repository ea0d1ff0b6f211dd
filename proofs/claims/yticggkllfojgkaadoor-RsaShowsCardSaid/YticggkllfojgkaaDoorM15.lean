/-
  Filled texts told by their last byte; the chain told by the blocks that have come; a byte of the beginning turned. No condition.
  The walks of the library's functions that cbc calls (at the arguments that it hands them), of Fill.
  The walks of slices.Grow, slices.Concat of two slices, bytes.Clone, Fill.
  Arrays of bytes compared.
-/
import Derived.Test.YticggkllfojgkaaDoorM14
import Derived.Test.YticggkllfojgkaaDoorM1
import Derived.Test.YticggkllfojgkaaDoorM12
import Derived.Lib.MakeNoZero
import Derived.Lib.AppendZerosOnto
import Derived.Lib.SliceRun
import Derived.Test.YticggkllfojgkaaDoorM11
import Derived.Test.YticggkllfojgkaaDoorM0
import Derived.Stop.BytesEq
namespace Go.Proofs.YticggkllfojgkaaDoor
open Go
set_option maxRecDepth 4000

theorem gb_rep (n : Nat) (x : BitVec 8) (i : Nat) (h : i < n) : gb (List.replicate n x) i = x := by simp [gb, h]
theorem fill_gb (t : List (BitVec 8)) (j : Nat) (h1 : t.length ≤ j) (h2 : j < (fillL t).length) : gb (fillL t) j = BitVec.ofNat 8 (fn t.length) := by
  rw [fill_len] at h2
  unfold fillL
  rw [gb_app, if_neg (by omega), gb_rep _ _ _ (by omega)]
theorem fn_nat (n : Nat) : (BitVec.ofNat 8 (fn n)).toNat = fn n := by rw [BitVec.toNat_ofNat]; have := fn_hi n; omega
/-- what the last byte says -/
def lb (b : List (BitVec 8)) : Nat := (gb b (b.length - 1)).toNat
theorem lb_fill (t : List (BitVec 8)) : lb (fillL t) = fn t.length := by
  have := fn_lo t.length
  unfold lb
  rw [fill_gb t _ (by rw [fill_len]; omega) (by rw [fill_len]; omega), fn_nat]
theorem empty_whole (b : List (BitVec 8)) (h : b.length = 0 ∨ b.length % 16 ≠ 0) : emptyL b = none := (empty_none b).2 fun t ht => by
  have := fill_mod t
  rw [ht] at this
  omega
theorem empty_last (b : List (BitVec 8)) (h : lb b < 1 ∨ 16 < lb b) : emptyL b = none := (empty_none b).2 fun t ht => by
  rw [← ht, lb_fill] at h
  have := fn_lo t.length
  have := fn_hi t.length
  omega
theorem empty_byte (b : List (BitVec 8)) (j : Nat) (hj : b.length - lb b ≤ j) (hl : j < b.length) (h : gb b j ≠ BitVec.ofNat 8 (lb b)) : emptyL b = none := (empty_none b).2 fun t ht => by
  subst ht
  rw [lb_fill] at hj h
  have e := fill_len t
  exact h (fill_gb t j (by omega) hl)
theorem empty_yes (b : List (BitVec 8)) (h1 : b.length % 16 = 0) (h0 : 0 < b.length) (h2 : 1 ≤ lb b) (h3 : lb b ≤ 16) (h4 : ∀ j, b.length - lb b ≤ j → j < b.length → gb b j = BitVec.ofNat 8 (lb b)) : emptyL b = some (b.take (b.length - lb b)) := by
  refine (empty_iff _ _).2 ?_
  have hl : (b.take (b.length - lb b)).length = b.length - lb b := by rw [List.length_take]; omega
  have hf : fn (b.take (b.length - lb b)).length = lb b := by rw [hl]; unfold fn; omega
  apply ext_gb
  · rw [fill_len, hf, hl]; omega
  · intro i hi
    rw [fill_len, hf, hl] at hi
    unfold fillL
    rw [gb_app, hf, hl]
    by_cases h : i < b.length - lb b
    · rw [if_pos h, gb_take', if_pos h]
    · rw [if_neg h, h4 i (by omega) (by omega), gb_rep _ _ _ (by omega)]
/-- whether bytes are filled hangs on the last block alone -/
theorem empty_tail (P B : List (BitVec 8)) (hP : P.length % 16 = 0) (h : emptyL (P ++ B) = none) : emptyL B = none := (empty_none B).2 fun s hs => (empty_none _).1 h (P ++ s) (by
  have e : fn (P ++ s).length = fn s.length := by rw [List.length_append]; unfold fn; omega
  unfold fillL at hs ⊢
  rw [e, List.append_assoc, hs])

/-- blocks of 16 bytes that come one behind the other -/
abbrev B16 := { x : List (BitVec 8) // x.length = 16 }
def vs (pre : List B16) : List (List (BitVec 8)) := pre.map (·.1)
theorem vs_snoc (pre : List B16) (x : B16) : vs (pre ++ [x]) = vs pre ++ [x.1] := by simp [vs]
theorem vs_len (pre : List B16) : (vs pre).length = pre.length := by simp [vs]
def bls (b : List (BitVec 8)) (n : Nat) : List (List (BitVec 8)) := (List.range n).map (b16 b)
theorem bls_succ (b : List (BitVec 8)) (n : Nat) : bls b (n + 1) = bls b n ++ [b16 b n] := by simp [bls, List.range_succ]
theorem bls_len (b : List (BitVec 8)) (n : Nat) : (bls b n).length = n := by simp [bls]
/-- sealing: the codes so far, the last one -/
def sst (K : Nat → List (BitVec 8)) (g : List (BitVec 8)) (l : List (List (BitVec 8))) : List (BitVec 8) × List (BitVec 8) :=
  l.foldl (fun s x => (s.1 ++ encL K (xorL x s.2), encL K (xorL x s.2))) ([], g)
theorem sst_snoc (K : Nat → List (BitVec 8)) (g : List (BitVec 8)) (l : List (List (BitVec 8))) (x : List (BitVec 8)) : sst K g (l ++ [x]) = ((sst K g l).1 ++ encL K (xorL x (sst K g l).2), encL K (xorL x (sst K g l).2)) := by simp [sst]
theorem sst_all (K : Nat → List (BitVec 8)) (b g : List (BitVec 8)) (n : Nat) : sst K g (bls b n) = (sealN K b g n, chn K b g n) := by
  induction n with
  | zero => rfl
  | succ n ih => rw [bls_succ, sst_snoc, ih]; rfl
theorem snoc_ind {α : Type} {p : List α → Prop} (h0 : p []) (h : ∀ l x, p l → p (l ++ [x])) (l : List α) : p l := by
  rw [← List.reverse_reverse l]
  induction l.reverse with
  | nil => exact h0
  | cons x r ih => rw [List.reverse_cons]; exact h _ _ ih
theorem sst_len (K : Nat → List (BitVec 8)) (g : List (BitVec 8)) (l : List (List (BitVec 8))) : (sst K g l).1.length = 16 * l.length := by
  induction l using snoc_ind with
  | h0 => rfl
  | h l x ih => rw [sst_snoc]; simp only [List.length_append, ih, encL_len, List.length_cons, List.length_nil]; omega
theorem sst_last (K : Nat → List (BitVec 8)) (g : List (BitVec 8)) (hg : g.length = 16) (l : List (List (BitVec 8))) : (sst K g l).2.length = 16 := by
  induction l using snoc_ind with
  | h0 => exact hg
  | h l x ih => rw [sst_snoc]; exact encL_len _ _
/-- opening: what came out so far, the code ahead -/
def ost (K : Nat → List (BitVec 8)) (g : List (BitVec 8)) (l : List (List (BitVec 8))) : List (BitVec 8) × List (BitVec 8) :=
  l.foldl (fun s x => (s.1 ++ xorL (decL K x) s.2, x)) ([], g)
theorem ost_snoc (K : Nat → List (BitVec 8)) (g : List (BitVec 8)) (l : List (List (BitVec 8))) (x : List (BitVec 8)) : ost K g (l ++ [x]) = ((ost K g l).1 ++ xorL (decL K x) (ost K g l).2, x) := by simp [ost]
theorem ost_all (K : Nat → List (BitVec 8)) (c g : List (BitVec 8)) (n : Nat) : ost K g (bls c n) = (openN K c g n, pv c g n) := by
  induction n with
  | zero => rfl
  | succ n ih => rw [bls_succ, ost_snoc, ih]; rfl
theorem ost_len (K : Nat → List (BitVec 8)) (g : List (BitVec 8)) (l : List (List (BitVec 8))) : (ost K g l).1.length = 16 * l.length := by
  induction l using snoc_ind with
  | h0 => rfl
  | h l x ih => rw [ost_snoc]; simp only [List.length_append, ih, xorL_len, List.length_cons, List.length_nil]; omega
theorem ost_last (K : Nat → List (BitVec 8)) (g : List (BitVec 8)) (hg : g.length = 16) (pre : List B16) : (ost K g (vs pre)).2.length = 16 := by
  induction pre using snoc_ind with
  | h0 => exact hg
  | h l x ih => rw [vs_snoc, ost_snoc]; exact x.2
/-- with a byte of the beginning turned, the first block's byte is -/
theorem open_turn (K : Nat → List (BitVec 8)) (c g : List (BitVec 8)) (at_ : Nat) (y : BitVec 8) (hg : g.length = 16) (h : at_ < 16) (n : Nat) :
    openN K c (g.set at_ (gb g at_ ^^^ y)) (n + 1) = (openN K c g (n + 1)).set at_ (gb (openN K c g (n + 1)) at_ ^^^ y) := by
  have e0 : opn K c (g.set at_ (gb g at_ ^^^ y)) 0 = (opn K c g 0).set at_ (gb (opn K c g 0) at_ ^^^ y) := xorL_turn _ _ _ _ hg h
  have es : ∀ i, opn K c (g.set at_ (gb g at_ ^^^ y)) (i + 1) = opn K c g (i + 1) := fun _ => rfl
  induction n with
  | zero =>
    unfold openN
    rw [cat, cat, cat, cat, e0, List.nil_append, List.nil_append]
  | succ n ih =>
    have hl : (openN K c g (n + 1)).length = 16 * (n + 1) := openN_len _ _ _ _
    have h2 : ∀ g', openN K c g' (n + 1 + 1) = openN K c g' (n + 1) ++ opn K c g' (n + 1) := fun _ => rfl
    rw [h2, h2, ih, es, gb_app, if_pos (by omega), List.set_append, if_pos (by omega)]
theorem fill_set (a : List (BitVec 8)) (i : Nat) (v : BitVec 8) (h : i < a.length) : fillL (a.set i v) = (fillL a).set i v := by
  unfold fillL
  rw [List.length_set, List.set_append, if_pos h]
theorem fill_at (a : List (BitVec 8)) (i : Nat) (h : i < a.length) : gb (fillL a) i = gb a i := by
  unfold fillL
  rw [gb_app, if_pos h]
end Go.Proofs.YticggkllfojgkaaDoor
namespace Go.Proofs.YticggkllfojgkaaDoor
open Go Go.RowKit
set_option maxRecDepth 4000

set_option maxHeartbeats 1000000 in
theorem Mul64_any (n : Nat) (hn : n < 17) (w : World) : Calls Tryd.prog 97 #[.int .u64 1, .int .u64 (n : Int)] w fun e w' => e = .returned (.tuple #[.int .u64 0, .int .u64 (n : Int)]) ∧ w = w' := by
  have a1 : bits .and .u64 (n : Int) 4294967295 = (n : Int) := (by decide : ∀ n : Nat, n < 17 → bits .and .u64 (n : Int) 4294967295 = (n : Int)) n hn
  go_enter Tryd.func97, Tryd.ntmps97
  go_wp2
  go_ret2
  have h17 : n = 0 ∨ n = 1 ∨ n = 2 ∨ n = 3 ∨ n = 4 ∨ n = 5 ∨ n = 6 ∨ n = 7 ∨ n = 8 ∨ n = 9 ∨ n = 10 ∨ n = 11 ∨ n = 12 ∨ n = 13 ∨ n = 14 ∨ n = 15 ∨ n = 16 := by omega
  clear a1 hn
  rcases h17 with rfl | rfl | rfl | rfl | rfl | rfl | rfl | rfl | rfl | rfl | rfl | rfl | rfl | rfl | rfl | rfl | rfl <;> exact ⟨rfl, rfl⟩
set_option maxHeartbeats 1000000 in
theorem Mul_any (n : Nat) (hn : n < 17) (w : World) : Calls Tryd.prog 72 #[.int .u64 1, .int .u64 (n : Int)] w fun e w' => e = .returned (.tuple #[.int .u64 0, .int .u64 (n : Int)]) ∧ w = w' := by
  go_enter Tryd.func72, Tryd.ntmps72
  go_wp2_with (go_at_call 97; refine (Mul64_any n hn w).mono ?_; rintro e w1 ⟨rfl, rfl⟩)
  go_ret2
  exact ⟨rfl, rfl⟩
theorem wp_copy_splice {P : Program} {o : Oper} {a : Act} {w : World} {K : Act → World → Prop} {Q : Exit → Act → World → Prop} (hgd : o.guard = none) (d s : Operand) (dT sT : TypeId)
    (ho : o.op = .call { callee := .builtin .copy, args := #[d, s], argTypes := #[dT, sT] }) (elem : TypeId) (hu : P.underlying dT = some (.slice elem)) (hsz : (P.info? elem).map (·.size) = some 1)
    (dp sp : Option Addr) (dLen dCap sLen sCap : Nat) (hd : a.eval d = .slice dp dLen dCap) (hs : a.eval s = .slice sp sLen sCap)
    (g off : Nat) (cur : List Value) (t : TypeId) (hg : w.heap[g]? = some (.cells cur.toArray t (0, 0))) (cs : List Value) (hn : cs.length = Nat.min sLen dLen)
    (hpos : 0 < cs.length → dp = some ⟨g, off, none⟩ ∧ ∃ ad, sp = some ad ∧ ∀ j v, cs[j]? = some v → w.cell? (ad.add j) = some v)
    (hfit : off + cs.length ≤ cur.length) (h1 : ∀ v ∈ cs, v.oneCell' = true) (B : Nat) (w0 : World) (hb : Below B w0 w) (hBg : B ≤ g)
    (h : ∀ w', Hid (w'.heap[g]? = some (.cells (splice cur off cs).toArray t (0, 0))) → Below B w0 w' → K (a.put o.dst (goInt cs.length)) w') : o.wp P a w K Q := by
  have h2 := step_copy_splice (ops := #[]) (E := True) hgd d s dT sT ho elem hu hsz dp sp dLen dCap sLen sCap hd hs g off cur t hg cs hn hpos hfit h1 B w0 hb hBg (Q := Q) h
  rwa [if_pos (by simp [Region.wanted, hgd])] at h2
theorem add_z (g k : Nat) : (⟨g, 0, none⟩ : Addr).add k = ⟨g, k, none⟩ := by unfold Addr.add; split <;> simp_all
/-- s[:n:n] -/
theorem run_cut3 (g n C : Nat) (h : n ≤ C) (w : World) : (Instr.sliceAt 26 (.slice (some ⟨g, 0, none⟩) n C) none (some (.int .i64 (n : Int))) (some (.int .i64 (n : Int)))).run Tryd.prog w = .ok (.slice (some ⟨g, 0, none⟩) n n) w := by
  have hs := szB
  cases hq : Tryd.prog.info? 5 with
  | none => simp [hq] at hs
  | some i =>
    simp [Instr.sliceAt, Instr.slice, run_underlying Tryd.underlying26, Instr.sliceBounds, Instr.sliceBound, asIntOf, sizeOf, typeInfo, hq, h, Addr.add]
theorem rep_take (n k : Nat) (x : Value) (h : k ≤ n) : (List.replicate n x).take k = List.replicate k x := by rw [List.take_replicate, Nat.min_eq_left h]
/-- a row whose first k cells are x -/
structure Rep (w : World) (g n k : Nat) (x : BitVec 8) : Prop where
  h : ∃ cur : List Value, w.heap[g]? = some (.cells cur.toArray 5 (0, 0)) ∧ n ≤ cur.length ∧ cur.take k = List.replicate k (vb x)
theorem Rep.cell {w : World} {g n k : Nat} {x : BitVec 8} (h : Rep w g n k x) (j : Nat) (hj : j < k) : w.cell? ⟨g, j, none⟩ = some (vb x) := by
  obtain ⟨cur, h1, _, h3⟩ := h.h
  rw [cell_of_row w g j _ _ _ h1]
  have e : (cur.take k)[j]? = some (vb x) := by rw [h3, List.getElem?_replicate, if_pos hj]
  rw [List.getElem?_take_of_lt hj] at e
  simpa using e
theorem Rep.bs {w : World} {g n k : Nat} {x : BitVec 8} (h : Rep w g n k x) (c : Nat) (hc : k ≤ c) : Bs w (some ⟨g, 0, none⟩) k c (List.replicate k x) :=
  ⟨by simp, hc, (fun e => by cases e), fun _ => ⟨g, 0, rfl, fun j hj => by rw [Nat.zero_add, h.cell j hj, gb_rep _ _ _ hj]⟩⟩
theorem Rep.src {w : World} {g n k : Nat} {x : BitVec 8} (h : Rep w g n k x) (m : Nat) (hm : m ≤ k) (j : Nat) (v : Value) (hv : (List.replicate m (vb x))[j]? = some v) : w.cell? ((⟨g, 0, none⟩ : Addr).add j) = some v := by
  have hj : j < m := by have := (List.getElem?_eq_some_iff.1 hv).1; simpa using this
  rw [List.getElem?_replicate, if_pos hj] at hv
  rw [← hv, add_z]
  exact h.cell j (by omega)
theorem Rep.copied {w : World} {g n k m : Nat} {x : BitVec 8} {cur : List Value} (h : w.heap[g]? = some (.cells (splice cur k (List.replicate m (vb x))).toArray 5 (0, 0))) (hC : n ≤ cur.length) (hT : cur.take k = List.replicate k (vb x)) (hm : k + m ≤ n) : Rep w g n (k + m) x := by
  refine ⟨_, h, by rw [length_splice _ _ _ (by rw [List.length_replicate]; omega)]; exact hC, ?_⟩
  unfold splice
  rw [hT, ← List.append_assoc, List.replicate_append_replicate, List.take_left' (by simp)]
set_option maxHeartbeats 4000000 in
theorem Repeat_any {A : Option Addr} {c : Nat} {x : BitVec 8} {w : World} (n : Nat) (h1 : 1 ≤ n) (hn : n < 17) (hb : Bs w A 1 c [x]) :
    Calls Tryd.prog 55 #[.slice A 1 c, .int .i64 (n : Int)] w fun e w' => ∃ A' c', e = .returned (.slice A' n c') ∧ Bs w' A' n c' (List.replicate n x) ∧ Ext w w' := by
  obtain ⟨cs, hrun, hle, _⟩ := Lib.run_makeNoZero (P := Tryd.prog) w #[3] 26 5 Tryd.underlying26 n (by omega)
  have hcall : (callFunc 73 #[.int .i64 (n : Int)]).run Tryd.prog w = .ok (.value (.slice (some ⟨w.heap.size, 0, none⟩) n cs.size)) ((w.alloc (.cells cs 5)).drewN 2) := by
    rw [run_callFunc_extern Tryd.func73 (by kernel_rfl) (by kernel_rfl) (by kernel_rfl) (e := Extern.BytealgMakeNoZero.makeNoZero #[3] #[26]) (by kernel_rfl), hrun]
    rfl
  clear hrun
  have hcut := run_cut3 w.heap.size n cs.size hle
  have b0 : (n : Int) ≠ 0 := by omega
  have b1 : 0 ≤ (n : Int) := by omega
  have b2 : (n : Int) ≤ 16 := by omega
  have hx0 : Ext w ((w.alloc (.cells cs 5)).drewN 2) := (by (repeat (first | assumption | exact Ext.refl _ | apply Ext.drew | apply Ext.drewN | apply Ext.alloc | refine Ext.trans ?_ (by assumption))); first | done | fail)
  have hG0 : ((w.alloc (.cells cs 5)).drewN 2).heap[w.heap.size]? = some (.cells cs.toList.toArray 5 (0, 0)) := heap_alloc_new w _
  generalize (w.alloc (.cells cs 5)).drewN 2 = w0 at *
  obtain ⟨g, hg⟩ : ∃ g, g = w.heap.size := ⟨_, rfl⟩
  rw [← hg] at hcall hcut hG0
  have hf1 : ([x].map vb).length = Nat.min 1 n := by show 1 = min 1 n; omega
  have hf2 : 0 + ([x].map vb).length ≤ cs.toList.length := by simp; omega
  have HG := Kp.mk hG0
  have HF1 := Kp.mk hf1
  have HF2 := Kp.mk hf2
  have HB := Kp.mk hb
  have HX := Kp.mk hx0
  have Hg := Kp.mk hg
  clear hG0 hf1 hf2 hb hx0 hg
  go_enter Tryd.func55, Tryd.ntmps55
  go_wp2_with (first | (go_at_call 72; refine (Mul_any n hn w).mono ?_; rintro e w1 ⟨rfl, rfl⟩) | (with_reducible refine at_call_to 60 ?_; refine wpList_copy_splice (o := ⟨some 60, _, _, _, _, _⟩) rfl (.tmp 58) (.tmp 59) 26 26 rfl 5 Tryd.underlying26 szB (some ⟨g, 0, none⟩) A n n 1 c rfl rfl g 0 cs.toList 5 HG.out ([x].map vb) HF1.out (fun hp => ⟨rfl, (HB.out.ext HX.out).news hp⟩) HF2.out (one_vb' [x]) w.heap.size w HX.out.b (by rw [Hg.out]; exact Nat.le_refl _) ?_; intro w2 hG2 hb2) | fail)
  have hR : Rep w2 g n 1 x := ⟨_, hG2.out, by rw [length_splice _ _ _ HF2.out]; simpa using hle, rfl⟩
  have hX2 : Ext w w2 := ⟨hb2⟩
  clear hcut hcall HG HF1 HF2 HB HX hG2 hb2 hle
  go_loopw [10] (fun v wr => ∃ k : Nat, 1 ≤ k ∧ k ≤ n ∧ v = .int .i64 k ∧ Rep wr g n k x ∧ Ext w wr) (fun v _ => n - (intOf v).toNat)
  case atStart => exact ⟨1, Nat.le_refl _, h1, rfl, hR, hX2⟩
  case round =>
    clear hR hX2
    obtain ⟨k, hk1, hkn, rfl, hR, hX⟩ := hrel
    by_cases hlt : k < n
    · have c1 : (k : Int) < n := by omega
      have c2 : (k : Int) ≤ n := by omega
      have hs1 := fun W => run_from (P := Tryd.prog) (some ⟨g, 0, none⟩) n n 26 5 Tryd.underlying26 szB k (k : Int) rfl (by omega) W
      have hs2 := fun W => run_upto (P := Tryd.prog) (some ⟨g, 0, none⟩) n n 26 5 Tryd.underlying26 szB k (k : Int) rfl (by omega) W
      simp only [if_neg (show ¬ n = k by omega), Option.map_some, add_z] at hs1
      obtain ⟨cur, hG, hC, hT⟩ := hR.h
      obtain ⟨m, hm⟩ : ∃ m, m = Nat.min k (n - k) := ⟨_, rfl⟩
      have hm1 : 1 ≤ m := by have : m = min k (n - k) := hm; omega
      have hm2 : k + m ≤ n := by have : m = min k (n - k) := hm; omega
      have hmk : m ≤ k := by have : m = min k (n - k) := hm; omega
      have HG : Kp (wr.drew.heap[g]? = some (.cells cur.toArray 5 (0, 0))) := ⟨hG⟩
      have HR : Kp (Rep wr.drew g n k x) := ⟨⟨hR.h⟩⟩
      have HC := Kp.mk hC
      have HT := Kp.mk hT
      have HX : Kp (Below w.heap.size w wr.drew) := ⟨hX.b.drew⟩
      have HL : Kp ((List.replicate m (vb x)).length = Nat.min k (n - k)) := ⟨by rw [List.length_replicate]; exact hm⟩
      have HF : Kp (k + (List.replicate m (vb x)).length ≤ cur.length) := ⟨by rw [List.length_replicate]; omega⟩
      have HO : Kp (∀ v ∈ List.replicate m (vb x), v.oneCell' = true) := ⟨fun v hv => by rw [(List.mem_replicate.1 hv).2]; rfl⟩
      have HM := Kp.mk hm
      have hw : IntKind.i64.wrap ((k : Int) + (m : Int)) = ((k + m : Nat) : Int) := by rw [IntKind.wrap_i64]; omega
      clear hR hX hG hC hT hm
      go_wp2_with fail
      refine wp_region_held_drew (S := fun w' => Ext w w') (by kernel_rfl) ⟨HX.out⟩ (fun hHeld => ?_)
      refine wpAnyH_take (i := 0) (oi := ⟨some 67, _, _, _, _, _⟩) (v := ?_) rfl (by kernel_rfl) (by kernel_rfl) (by kernel_rfl) (fun _ _ _ h => h) (Or.inl ⟨by rfl, ?_⟩) (by assumption) ?_
      rotate_left
      · (intro w hSw; (try dsimp only at hSw); go_simp; try with_reducible rfl)
      try simp only [Act.put, List.setIfInBounds_toArray, List.set_cons_zero, List.set_cons_succ]
      refine wpAnyH_take (i := 1) (oi := ⟨some 68, _, _, _, _, _⟩) (v := ?_) rfl (by kernel_rfl) (by kernel_rfl) (by kernel_rfl) (fun _ _ _ h => h) (Or.inl ⟨by rfl, ?_⟩) (by assumption) ?_
      rotate_left
      · (intro w hSw; (try dsimp only at hSw); go_simp; try with_reducible rfl)
      try simp only [Act.put, List.setIfInBounds_toArray, List.set_cons_zero, List.set_cons_succ]
      refine wpAnyH_take (i := 2) (oi := ⟨some 69, _, _, _, _, _⟩) (v := ?_) rfl (by kernel_rfl) (by kernel_rfl) (by kernel_rfl) (fun _ _ _ h => h) (Or.inl ⟨by rfl, ?_⟩) (by assumption) ?_
      rotate_left
      · (intro w hSw; (try dsimp only at hSw); go_simp; try with_reducible rfl)
      try simp only [Act.put, List.setIfInBounds_toArray, List.set_cons_zero, List.set_cons_succ]
      refine wpAnyH_take (i := 3) (oi := ⟨some 70, _, _, _, _, _⟩) (v := ?_) rfl (by kernel_rfl) (by kernel_rfl) (by kernel_rfl) (fun _ _ _ h => h) (Or.inl ⟨by rfl, ?_⟩) (by assumption) ?_
      rotate_left
      · (intro w hSw; (try dsimp only at hSw); go_simp; try with_reducible rfl)
      try simp only [Act.put, List.setIfInBounds_toArray, List.set_cons_zero, List.set_cons_succ]
      refine wpAnyH_take (i := 4) (oi := ⟨some 71, _, _, _, _, _⟩) (v := ?_) rfl (by kernel_rfl) (by kernel_rfl) (by kernel_rfl) (fun _ _ _ h => h) (Or.inl ⟨by rfl, ?_⟩) (by assumption) ?_
      rotate_left
      · (intro w hSw; (try dsimp only at hSw); go_simp; try with_reducible rfl)
      try simp only [Act.put, List.setIfInBounds_toArray, List.set_cons_zero, List.set_cons_succ]
      refine wpAnyH_take (i := 5) (oi := ⟨some 72, _, _, _, _, _⟩) (v := ?_) rfl (by kernel_rfl) (by kernel_rfl) (by kernel_rfl) (fun _ _ _ h => h) (Or.inl ⟨by rfl, ?_⟩) (by assumption) ?_
      rotate_left
      · (intro w hSw; (try dsimp only at hSw); go_simp; try with_reducible rfl)
      try simp only [Act.put, List.setIfInBounds_toArray, List.set_cons_zero, List.set_cons_succ]
      refine wpAnyH_take (i := 6) (oi := ⟨some 73, _, _, _, _, _⟩) (v := ?_) rfl (by kernel_rfl) (by kernel_rfl) (by kernel_rfl) (fun _ _ _ h => h) (Or.inl ⟨by rfl, ?_⟩) (by assumption) ?_
      rotate_left
      · (intro w hSw; (try dsimp only at hSw); go_simp; try with_reducible rfl)
      try simp only [Act.put, List.setIfInBounds_toArray, List.set_cons_zero, List.set_cons_succ]
      refine next_one 7 (by kernel_rfl) rfl (by rfl) fun K' HK' => ?_
      refine wp_copy_splice (o := ⟨some 74, _, _, _, _, _⟩) rfl (.tmp 70) (.tmp 73) 26 26 rfl 5 Tryd.underlying26 szB (some ⟨g, k, none⟩) (some ⟨g, 0, none⟩) (n - k) (n - k) k n rfl rfl g k cur 5 HG.out (List.replicate m (vb x)) HL.out (fun _ => ⟨rfl, _, rfl, HR.out.src m hmk⟩) HF.out HO.out w.heap.size w HX.out (by rw [Hg.out]; exact Nat.le_refl _) ?_
      intro w4 hg4 hb4
      rw [List.length_replicate]
      clear hHeld
      refine held_go HK' ⟨hb4⟩ (fun hHeld => ?_)
      clear HK'
      try simp only [Act.put, List.setIfInBounds_toArray, List.set_cons_zero, List.set_cons_succ]
      refine wpAnyH_take (i := 8) (oi := ⟨some 75, _, _, _, _, _⟩) (v := ?_) rfl (by kernel_rfl) (by kernel_rfl) (by kernel_rfl) (fun _ _ _ h => h) (Or.inl ⟨by rfl, ?_⟩) (by assumption) ?_
      rotate_left
      · (intro w hSw; (try dsimp only at hSw); go_simp; try with_reducible rfl)
      try simp only [Act.put, List.setIfInBounds_toArray, List.set_cons_zero, List.set_cons_succ]
      refine wpAnyH_take (i := 9) (oi := ⟨some 10, _, _, _, _, _⟩) (v := ?_) rfl (by kernel_rfl) (by kernel_rfl) (by kernel_rfl) (fun _ _ _ h => h) (Or.inl ⟨by rfl, ?_⟩) (by assumption) ?_
      rotate_left
      · (intro w hSw; (try dsimp only at hSw); go_simp; try with_reducible rfl)
      try simp only [Act.put, List.setIfInBounds_toArray, List.set_cons_zero, List.set_cons_succ]
      refine wpAnyH_done (by kernel_rfl) ?_ _
      go_wp2_with fail
      go_roundw
      case rel => exact ⟨k + m, by omega, hm2, rfl, Rep.copied hg4.out HC.out HT.out hm2, ⟨hb4⟩⟩
      case measure => simp [intOf]; omega
    · obtain rfl : k = n := by omega
      go_wp2_with fail
      go_ret
      exact ⟨_, _, rfl, hR.bs _ (Nat.le_refl _), hX⟩
theorem Repeat_at {A : Option Addr} {c : Nat} {x : BitVec 8} {w : World} (n : Nat) (z : Int) (hz : z = (n : Int)) (h1 : 1 ≤ n) (hn : n < 17) (hb : Bs w A 1 c [x]) :
    Calls Tryd.prog 55 #[.slice A 1 c, .int .i64 z] w fun e w' => ∃ A' c', e = .returned (.slice A' n c') ∧ Bs w' A' n c' (List.replicate n x) ∧ Ext w w' := by
  subst hz
  exact Repeat_any n h1 hn hb
end Go.Proofs.YticggkllfojgkaaDoor
namespace Go.Proofs.YticggkllfojgkaaDoor
open Go Go.RowKit
set_option maxRecDepth 4000

set_option maxHeartbeats 1000000 in
theorem Grow_any (n : Nat) (h0 : 0 < n) (hn : n ≤ 140737488351232) (w : World) :
    Calls Tryd.prog 69 #[.slice none 0 0, .int .i64 (n : Int)] w fun e w' => ∃ A c, e = .returned (.slice A 0 c) ∧ Own w' w.heap.size (.slice A 0 c) 0 [] ∧ Ext w w' := by
  obtain ⟨i, hi, hz, hs, hb⟩ := info_parts inB
  have hrz : ∀ ty, (Builtin.append_ #[26, 3] ty #[.slice none 0 0, .int .i64 (n : Int)]).run Tryd.prog w =
      .ok (.slice (some ⟨w.heap.size, 0, none⟩) (0 + n) (grownCap w (0 + n) 0 5)) (w.drew.alloc (.cells (([] : List Value).toArray ++ Builtin.zeroCells (Value.int .u8 0).cells n ++ Builtin.zeroCells (Value.int .u8 0).cells (grownCap w (0 + n) 0 5 - (0 + n))) 5)) := fun ty =>
    Lib.run_append_grow_zeros w 26 3 ty 5 i (.int .u8 0) .i64 .i64 Tryd.underlying26 Tryd.underlying3 hi hz none 0 0 [] (run_firstCells_none w.drew i.size 0 0 0) n h0 (by omega) (by omega) (by omega) (by rw [hb]; omega) (growslice_fits (by omega) (by rw [hb]; omega))
  have hG1 := grownCap_ge w (0 + n) 0 5
  have hG2 := grownCap_le_maxLen w (0 + n) 0 5 (by unfold maxLen; omega)
  obtain ⟨G, hG⟩ : ∃ G, G = grownCap w (0 + n) 0 5 := ⟨_, rfl⟩
  rw [← hG] at hrz hG1 hG2
  obtain ⟨cs, hcs⟩ : ∃ cs, cs = (([] : List Value).toArray ++ Builtin.zeroCells (Value.int .u8 0).cells n ++ Builtin.zeroCells (Value.int .u8 0).cells (G - (0 + n))) := ⟨_, rfl⟩
  rw [← hcs] at hrz
  have hsz : cs.size = G := by
    rw [hcs, Array.size_append, Array.size_append, size_zeroCells, size_zeroCells]
    show 0 + n * 1 + (G - (0 + n)) * 1 = G
    omega
  rw [Nat.zero_add] at hrz
  have ho : Own (w.drew.alloc (.cells cs 5)) w.heap.size (.slice (some ⟨w.heap.size, 0, none⟩) 0 G) 0 [] :=
    ⟨⟨rfl, .inr ⟨w.heap.size, G, cs, rfl, Nat.le_refl _, heap_alloc_new w.drew _, Nat.zero_le _, hG2, by rw [hsz, Nat.mul_one], rfl⟩⟩⟩
  have b1 : ¬ (n : Int) < 0 := by omega
  have b2 : 0 < (n : Int) := by omega
  have hcut := fun W => run_upto (P := Tryd.prog) (some ⟨w.heap.size, 0, none⟩) n G 26 5 Tryd.underlying26 szB 0 0 rfl (Nat.zero_le _) W
  clear hcs hG hG1 hG2 hsz
  have HO := Kp.mk ho
  clear ho
  go_enter Tryd.func69, Tryd.ntmps69
  go_wp2_with (at_builtin; refine Lib.wpList_append_run _ rfl _ _ _ _ rfl _ _ rfl rfl _ _ (hrz _) ?_)
  go_ret
  exact ⟨_, _, rfl, HO.out, (by (repeat (first | assumption | exact Ext.refl _ | apply Ext.drew | apply Ext.drewN | apply Ext.alloc | refine Ext.trans ?_ (by assumption))); first | done | fail)⟩
/-- of two parts: how many bytes the first j hold, and which -/
def s2 (n m : Nat) (j : Nat) : Nat := if j = 0 then 0 else if j = 1 then n else n + m
def l2 (x y : List (BitVec 8)) (j : Nat) : List (BitVec 8) := if j = 0 then [] else if j = 1 then x else x ++ y
set_option maxHeartbeats 2000000 in
theorem Concat_any {x y : List (BitVec 8)} {A1 A2 : Option Addr} {n m c1 c2 g : Nat} {w : World} (h1 : Bs w A1 n c1 x) (h2 : Bs w A2 m c2 y) (hB : Blk w g 26 #[.slice A1 n c1, .slice A2 m c2]) (h0 : 0 < n + m) (hn : n + m ≤ 140737488351232) :
    Calls Tryd.prog 53 #[.slice (some ⟨g, 0, none⟩) 2 2] w (Fresh w (n + m) (x ++ y)) := by
  go_enter Tryd.func53, Tryd.ntmps53
  have H1 := Kp.mk h1
  have H2 := Kp.mk h2
  have HB := Kp.mk hB
  clear h1 h2 hB
  go_wp2_with fail
  go_loopw [3, 11] (fun sv iv wr => ∃ j : Nat, j ≤ 2 ∧ iv = .int .i64 j ∧ sv = .int .i64 (s2 n m j) ∧ wr = w) (fun _ i _ => 2 - (intOf i).toNat)
  case atStart => exact ⟨0, by omega, rfl, rfl, rfl⟩
  case round =>
    obtain ⟨j, hj, rfl, rfl, rfl⟩ := hrel
    have c0 := HB.out.h.cell 0
    have c1' := HB.out.h.cell 1
    have hj3 : j = 0 ∨ j = 1 ∨ j = 2 := by omega
    rcases hj3 with rfl | rfl | rfl
    · have e : s2 n m 0 = 0 := rfl
      rw [e]
      go_wp2_with fail
      go_roundw
      case rel => exact ⟨1, by omega, rfl, by simp [s2], trivial⟩
      case measure => simp [intOf]
    · have e : s2 n m 1 = n := rfl
      rw [e]
      go_wp2_with fail
      go_roundw
      case rel => exact ⟨2, by omega, rfl, by simp [s2], trivial⟩
      case measure => simp [intOf]
    · have e : s2 n m 2 = n + m := rfl
      rw [e]
      have hz : ((n + m : Nat) : Int) = (n : Int) + (m : Int) := by omega
      go_wp2_with (go_at_call 69; refine (Grow_any (n + m) h0 hn _).mono ?_; rintro e w1 ⟨A3, c3, rfl, ho3, hx3⟩)
      clear c0 c1' e hz hj
      obtain ⟨wo, rfl⟩ : ∃ wo : World, wo = wr := ⟨_, rfl⟩
      go_loopw [6, 27] (fun nv iv wq => ∃ j : Nat, j ≤ 2 ∧ iv = .int .i64 j ∧ (∃ A c, nv = .slice A (s2 n m j) c) ∧ Own wq wo.heap.size nv (s2 n m j) (l2 x y j) ∧ Ext wo wq) (fun _ i _ => 2 - (intOf i).toNat)
      case atStart => exact ⟨0, by omega, rfl, ⟨_, _, rfl⟩, ho3, hx3⟩
      case round =>
        clear ho3 hx3
        obtain ⟨j, hj, rfl, ⟨A4, c4, rfl⟩, ho4, hx4⟩ := hrel
        have c0 := (HB.out.ext hx4).h.cell 0
        have c1' := (HB.out.ext hx4).h.cell 1
        have HS := Kp.mk hx4.size
        have hj3 : j = 0 ∨ j = 1 ∨ j = 2 := by omega
        rcases hj3 with rfl | rfl | rfl
        · go_wp2_with (first | (at_builtin; refine wpList_append_bs rfl (.tmp 31) (.tmp 32) rfl wo.heap.size _ 0 [] rfl ho4 A1 n c1 x rfl (H1.out.ext hx4) (by omega) n (by omega) x rfl wo hx4 (Nat.le_refl _) HS.out ?_; intro A5 c5 w5 ho5 hx5 _) | fail)
          go_roundw
          case rel => exact ⟨1, by omega, rfl, ⟨_, _, rfl⟩, ho5, hx5⟩
          case measure => simp [intOf]
        · go_wp2_with (first | (at_builtin; refine wpList_append_bs rfl (.tmp 31) (.tmp 32) rfl wo.heap.size _ n x rfl ho4 A2 m c2 y rfl (H2.out.ext hx4) (by omega) (n + m) rfl (x ++ y) rfl wo hx4 (Nat.le_refl _) HS.out ?_; intro A5 c5 w5 ho5 hx5 _) | fail)
          go_roundw
          case rel => exact ⟨2, by omega, rfl, ⟨_, _, rfl⟩, ho5, hx5⟩
          case measure => simp [intOf]
        · have ho5 : Own wr wo.heap.size (.slice A4 (n + m) c4) (n + m) (x ++ y) := ho4
          have hx5 := hx4
          have e : s2 n m 2 = n + m := rfl
          rw [e]
          clear ho4 hx4
          go_wp2_with fail
          go_ret
          exact ⟨_, _, rfl, ho5.bs, ho5, hx5⟩
end Go.Proofs.YticggkllfojgkaaDoor
namespace Go.Proofs.YticggkllfojgkaaDoor
open Go Go.RowKit
set_option maxRecDepth 4000

theorem ub_beq (x y : BitVec 8) : (ub x == ub y) = (x == y) := by
  by_cases h : x = y
  · subst h; simp
  · have h2 : ub x ≠ ub y := fun e => h (BitVec.eq_of_toNat_eq (by unfold ub at e; omega))
    rw [beq_eq_false_iff_ne.2 h, beq_eq_false_iff_ne.2 h2]
theorem bv_cells (l : List (BitVec 8)) : bv l = ((l.map UInt8.ofBitVec).map Extern.Stop.cell).toArray := by
  unfold bv
  rw [List.map_map]
  rfl
theorem of_beq (xs ys : List (BitVec 8)) : (xs.map UInt8.ofBitVec == ys.map UInt8.ofBitVec) = (xs == ys) := by
  by_cases h : xs = ys
  · subst h; simp
  · have h2 : xs.map UInt8.ofBitVec ≠ ys.map UInt8.ofBitVec := fun e => h (by
      have h3 := congrArg (List.map UInt8.toBitVec) e
      rw [List.map_map, List.map_map] at h3
      have e1 : UInt8.toBitVec ∘ UInt8.ofBitVec = id := by funext z; rfl
      rwa [e1, List.map_id, List.map_id] at h3)
    rw [beq_eq_false_iff_ne.2 h, beq_eq_false_iff_ne.2 h2]
/-- the library's law on arrays of bytes, at bytes as bit vectors -/
theorem run_equalIn_bts {P : Program} (w : World) (d t e n : Nat) (ht : P.underlying t = some (.array n e)) (he : P.underlying e = some (.int .u8)) (hs : (P.info? e).map (·.size) = some 1)
    (xs ys : List (BitVec 8)) (hx : xs.length = n) (hy : ys.length = n) :
    (Op.equalIn (d + 2) t (.agg (bv xs)) (.agg (bv ys))).run P w = .ok (xs == ys) w := by
  have hsz : ∀ w, (sizeOf e).run P w = .ok 1 w := fun w => by
    cases hq : P.info? e with
    | none => simp [hq] at hs
    | some i =>
      have hs1 : i.size = 1 := by simpa [hq] using hs
      simp [sizeOf, typeInfo, hq, hs1]
  rw [bv_cells, bv_cells, run_equalIn_bytes w d t e n ht he hsz _ _ (by rw [List.length_map, hx]) (by rw [List.length_map, hy]), of_beq]
theorem bl_loop (bs : ByteArray) : ∀ (n i : Nat) (r : List UInt8), bs.size - i = n → ByteArray.toList.loop bs i r = r.reverse ++ bs.data.toList.drop i
  | 0, i, r, h => by
    rw [ByteArray.toList.loop, if_neg (by omega), List.drop_eq_nil_of_le (by have : bs.data.toList.length = bs.size := rfl; omega), List.append_nil]
  | n + 1, i, r, h => by
    have hi : i < bs.size := by omega
    have hi2 : i < bs.data.toList.length := hi
    rw [ByteArray.toList.loop, if_pos hi, bl_loop bs n (i + 1) _ (by omega), List.reverse_cons, List.append_assoc, List.drop_eq_getElem_cons hi2]
    congr 2
    simp [ByteArray.get!, hi]
theorem bl_toList (bs : ByteArray) : bs.toList = bs.data.toList := by
  unfold ByteArray.toList
  rw [bl_loop bs _ 0 [] rfl]
  simp
theorem strOf_toList (l : List (BitVec 8)) : (strOf l).toList = l.map UInt8.ofBitVec := by rw [bl_toList]; rfl
theorem strOf_inj {x y : List (BitVec 8)} (h : (strOf x).toList = (strOf y).toList) : x = y := by
  rw [strOf_toList, strOf_toList] at h
  have h3 := congrArg (List.map UInt8.toBitVec) h
  rw [List.map_map, List.map_map] at h3
  have e : UInt8.toBitVec ∘ UInt8.ofBitVec = id := by funext z; rfl
  rwa [e, List.map_id, List.map_id] at h3
end Go.Proofs.YticggkllfojgkaaDoor
