/-
  Filled texts told by their last byte; the chain told by the blocks that have come; a byte of the beginning turned. No condition.
-/
import Derived.Test.YtfipgmjaabggjaaDoorVCp
namespace Go.Proofs.YtfipgmjaabggjaaDoor
open Go
set_option maxRecDepth 4000

theorem gb_rep (n : Nat) (x : BitVec 8) (i : Nat) (h : i < n) : gb (List.replicate n x) i = x := by simp [gb, h]
theorem fill_gb (t : List (BitVec 8)) (j : Nat) (h1 : t.length ≤ j) (h2 : j < (fillL t).length) : gb (fillL t) j = BitVec.ofNat 8 (fn t.length) := by
  rw [fill_len] at h2
  unfold fillL
  rw [gb_app, if_neg (by omega), gb_rep _ _ _ (by omega)]
theorem fn_nat (n : Nat) : (BitVec.ofNat 8 (fn n)).toNat = fn n := by rw [BitVec.toNat_ofNat]; have := fn_hi n; omega
/-- what the last byte says -/
def lb (b : List (BitVec 8)) : Nat := (gb b (b.length - 1)).toNat
theorem lb_fill (t : List (BitVec 8)) : lb (fillL t) = fn t.length := by
  have := fn_lo t.length
  unfold lb
  rw [fill_gb t _ (by rw [fill_len]; omega) (by rw [fill_len]; omega), fn_nat]
theorem empty_whole (b : List (BitVec 8)) (h : b.length = 0 ∨ b.length % 16 ≠ 0) : emptyL b = none := (empty_none b).2 fun t ht => by
  have := fill_mod t
  rw [ht] at this
  omega
theorem empty_last (b : List (BitVec 8)) (h : lb b < 1 ∨ 16 < lb b) : emptyL b = none := (empty_none b).2 fun t ht => by
  rw [← ht, lb_fill] at h
  have := fn_lo t.length
  have := fn_hi t.length
  omega
theorem empty_byte (b : List (BitVec 8)) (j : Nat) (hj : b.length - lb b ≤ j) (hl : j < b.length) (h : gb b j ≠ BitVec.ofNat 8 (lb b)) : emptyL b = none := (empty_none b).2 fun t ht => by
  subst ht
  rw [lb_fill] at hj h
  have e := fill_len t
  exact h (fill_gb t j (by omega) hl)
theorem empty_yes (b : List (BitVec 8)) (h1 : b.length % 16 = 0) (h0 : 0 < b.length) (h2 : 1 ≤ lb b) (h3 : lb b ≤ 16) (h4 : ∀ j, b.length - lb b ≤ j → j < b.length → gb b j = BitVec.ofNat 8 (lb b)) : emptyL b = some (b.take (b.length - lb b)) := by
  refine (empty_iff _ _).2 ?_
  have hl : (b.take (b.length - lb b)).length = b.length - lb b := by rw [List.length_take]; omega
  have hf : fn (b.take (b.length - lb b)).length = lb b := by rw [hl]; unfold fn; omega
  apply ext_gb
  · rw [fill_len, hf, hl]; omega
  · intro i hi
    rw [fill_len, hf, hl] at hi
    unfold fillL
    rw [gb_app, hf, hl]
    by_cases h : i < b.length - lb b
    · rw [if_pos h, gb_take', if_pos h]
    · rw [if_neg h, h4 i (by omega) (by omega), gb_rep _ _ _ (by omega)]
/-- whether bytes are filled hangs on the last block alone -/
theorem empty_tail (P B : List (BitVec 8)) (hP : P.length % 16 = 0) (h : emptyL (P ++ B) = none) : emptyL B = none := (empty_none B).2 fun s hs => (empty_none _).1 h (P ++ s) (by
  have e : fn (P ++ s).length = fn s.length := by rw [List.length_append]; unfold fn; omega
  unfold fillL at hs ⊢
  rw [e, List.append_assoc, hs])

/-- blocks of 16 bytes that come one behind the other -/
abbrev B16 := { x : List (BitVec 8) // x.length = 16 }
def vs (pre : List B16) : List (List (BitVec 8)) := pre.map (·.1)
theorem vs_snoc (pre : List B16) (x : B16) : vs (pre ++ [x]) = vs pre ++ [x.1] := by simp [vs]
theorem vs_len (pre : List B16) : (vs pre).length = pre.length := by simp [vs]
def bls (b : List (BitVec 8)) (n : Nat) : List (List (BitVec 8)) := (List.range n).map (b16 b)
theorem bls_succ (b : List (BitVec 8)) (n : Nat) : bls b (n + 1) = bls b n ++ [b16 b n] := by simp [bls, List.range_succ]
theorem bls_len (b : List (BitVec 8)) (n : Nat) : (bls b n).length = n := by simp [bls]
/-- sealing: the codes so far, the last one -/
def sst (K : Nat → List (BitVec 8)) (g : List (BitVec 8)) (l : List (List (BitVec 8))) : List (BitVec 8) × List (BitVec 8) :=
  l.foldl (fun s x => (s.1 ++ encL K (xorL x s.2), encL K (xorL x s.2))) ([], g)
theorem sst_snoc (K : Nat → List (BitVec 8)) (g : List (BitVec 8)) (l : List (List (BitVec 8))) (x : List (BitVec 8)) : sst K g (l ++ [x]) = ((sst K g l).1 ++ encL K (xorL x (sst K g l).2), encL K (xorL x (sst K g l).2)) := by simp [sst]
theorem sst_all (K : Nat → List (BitVec 8)) (b g : List (BitVec 8)) (n : Nat) : sst K g (bls b n) = (sealN K b g n, chn K b g n) := by
  induction n with
  | zero => rfl
  | succ n ih => rw [bls_succ, sst_snoc, ih]; rfl
theorem snoc_ind {α : Type} {p : List α → Prop} (h0 : p []) (h : ∀ l x, p l → p (l ++ [x])) (l : List α) : p l := by
  rw [← List.reverse_reverse l]
  induction l.reverse with
  | nil => exact h0
  | cons x r ih => rw [List.reverse_cons]; exact h _ _ ih
theorem sst_len (K : Nat → List (BitVec 8)) (g : List (BitVec 8)) (l : List (List (BitVec 8))) : (sst K g l).1.length = 16 * l.length := by
  induction l using snoc_ind with
  | h0 => rfl
  | h l x ih => rw [sst_snoc]; simp only [List.length_append, ih, encL_len, List.length_cons, List.length_nil]; omega
theorem sst_last (K : Nat → List (BitVec 8)) (g : List (BitVec 8)) (hg : g.length = 16) (l : List (List (BitVec 8))) : (sst K g l).2.length = 16 := by
  induction l using snoc_ind with
  | h0 => exact hg
  | h l x ih => rw [sst_snoc]; exact encL_len _ _
/-- opening: what came out so far, the code ahead -/
def ost (K : Nat → List (BitVec 8)) (g : List (BitVec 8)) (l : List (List (BitVec 8))) : List (BitVec 8) × List (BitVec 8) :=
  l.foldl (fun s x => (s.1 ++ xorL (decL K x) s.2, x)) ([], g)
theorem ost_snoc (K : Nat → List (BitVec 8)) (g : List (BitVec 8)) (l : List (List (BitVec 8))) (x : List (BitVec 8)) : ost K g (l ++ [x]) = ((ost K g l).1 ++ xorL (decL K x) (ost K g l).2, x) := by simp [ost]
theorem ost_all (K : Nat → List (BitVec 8)) (c g : List (BitVec 8)) (n : Nat) : ost K g (bls c n) = (openN K c g n, pv c g n) := by
  induction n with
  | zero => rfl
  | succ n ih => rw [bls_succ, ost_snoc, ih]; rfl
theorem ost_len (K : Nat → List (BitVec 8)) (g : List (BitVec 8)) (l : List (List (BitVec 8))) : (ost K g l).1.length = 16 * l.length := by
  induction l using snoc_ind with
  | h0 => rfl
  | h l x ih => rw [ost_snoc]; simp only [List.length_append, ih, xorL_len, List.length_cons, List.length_nil]; omega
theorem ost_last (K : Nat → List (BitVec 8)) (g : List (BitVec 8)) (hg : g.length = 16) (pre : List B16) : (ost K g (vs pre)).2.length = 16 := by
  induction pre using snoc_ind with
  | h0 => exact hg
  | h l x ih => rw [vs_snoc, ost_snoc]; exact x.2
/-- with a byte of the beginning turned, the first block's byte is -/
theorem open_turn (K : Nat → List (BitVec 8)) (c g : List (BitVec 8)) (at_ : Nat) (y : BitVec 8) (hg : g.length = 16) (h : at_ < 16) (n : Nat) :
    openN K c (g.set at_ (gb g at_ ^^^ y)) (n + 1) = (openN K c g (n + 1)).set at_ (gb (openN K c g (n + 1)) at_ ^^^ y) := by
  have e0 : opn K c (g.set at_ (gb g at_ ^^^ y)) 0 = (opn K c g 0).set at_ (gb (opn K c g 0) at_ ^^^ y) := xorL_turn _ _ _ _ hg h
  have es : ∀ i, opn K c (g.set at_ (gb g at_ ^^^ y)) (i + 1) = opn K c g (i + 1) := fun _ => rfl
  induction n with
  | zero =>
    unfold openN
    rw [cat, cat, cat, cat, e0, List.nil_append, List.nil_append]
  | succ n ih =>
    have hl : (openN K c g (n + 1)).length = 16 * (n + 1) := openN_len _ _ _ _
    have h2 : ∀ g', openN K c g' (n + 1 + 1) = openN K c g' (n + 1) ++ opn K c g' (n + 1) := fun _ => rfl
    rw [h2, h2, ih, es, gb_app, if_pos (by omega), List.set_append, if_pos (by omega)]
theorem fill_set (a : List (BitVec 8)) (i : Nat) (v : BitVec 8) (h : i < a.length) : fillL (a.set i v) = (fillL a).set i v := by
  unfold fillL
  rw [List.length_set, List.set_append, if_pos h]
theorem fill_at (a : List (BitVec 8)) (i : Nat) (h : i < a.length) : gb (fillL a) i = gb a i := by
  unfold fillL
  rw [gb_app, if_pos h]
end Go.Proofs.YtfipgmjaabggjaaDoor
